/- Pt, Pu -/
import Derived.Test.YtkfihhagcimcmaaGreatDoorChecked
import Derived.Test.YtkfihhagcimcmaaGreatDoorProg
import Derived.Test.YtkfihhagcimcmaaGreatDoorY1
import Derived.Test.YtkfihhagcimcmaaGreatDoorYbb
namespace Go.Proofs.YtkfihhagcimcmaaGreatDoor.Ps
open Go.RowKit
open Lx (Tok bl_alloc)
theorem put_end {w x:World} {p cap:Nat} {a:Option Addr} {M:List Tok} {E o:Int} {R:Res Ex} {ex:Ex} (h:Hd) (hR:R= .ok ex M) (hX:XB (fun b=>w.heap.size+1≤b) x h ex) (hP:Prs x p a cap M E o) (hK:Keep p w x) (hpl:p<w.heap.size):
  PostR (VX w.heap.size) w p E o R (.returned h.agg) (put7 x w.heap.size (.int .i64 h.op) (.int .i64 h.n) (.string h.s) (.slice h.p h.pl h.pc) (.slice h.q h.ql h.qc) (.bool h.o) (.slice h.k h.kl h.kc)):=by
 have hg:=put7_grown x w.heap.size (.int .i64 h.op) (.int .i64 h.n) (.string h.s) (.slice h.p h.pl h.pc) (.slice h.q h.ql h.qc) (.bool h.o) (.slice h.k h.kl h.kc)
 exact .mkY hR ⟨h,rfl,hX.turn hg.size (fun b lt hb=>⟨hg.block b lt (fun e=>by injection e with e;omega),by omega⟩)⟩ (hP.grown hg (fun k e=>by cases e;exact hpl)) (hK.grown hg (fun k e=>by cases e;exact Nat.le_refl _))
theorem number_as (w:World) (p cap:Nat) (a:Option Addr) (L:List Tok) (E o:Int) (r:Res Int) (h:Prs w p a cap L E o) (hr:Hid (numM E L=r)):Calls Tryz.prog 229 #[.pointer (some ⟨p,0,none⟩)] w (PostR VI w p E o r):=by rw [←hr.out];exact number_any w p cap a L E o h
theorem path_as (w:World) (p cap:Nat) (a:Option Addr) (L:List Tok) (E o:Int) (r:Res (List ByteArray)) (h:Prs w p a cap L E o) (hr:Hid (pathF E (L.length+1) [] L=r)):Calls Tryz.prog 232 #[.pointer (some ⟨p,0,none⟩)] w (PostR (VP w.heap.size) w p E o r):=by rw [←hr.out];exact path_any w p cap a L E o h
theorem word_as (w:World) (p cap:Nat) (a:Option Addr) (t:Tok) (M:List Tok) (E o:Int) (r:Res Ex) (h:Prs w p a cap (t::M) E o) (hr:Hid (wordM t M=r)):Calls Tryz.prog 233 #[.pointer (some ⟨p,0,none⟩)] w (PostR (VX w.heap.size) w p E o r):=by rw [←hr.out];exact word_any w p cap a t M E o h
set_option maxRecDepth 100000 in
set_option maxHeartbeats 16000000 in
theorem unit_any (join:Int→List Tok→Res Ex) (w:World) (p cap:Nat) (a:Option Addr) (L:List Tok) (E o:Int) (h:Prs w p a cap L E o) (ho:0≤o∧o≤16) (hfit:∀o L,Fits cnt L (join o L))
  (ask:∀(W:World) (a:Option Addr) (cap:Nat) (M:List Tok) (o:Int),0≤o→o≤16→M.length+1≤L.length→Prs W p a cap M E o→Calls Tryz.prog 145 #[.pointer (some ⟨p,0,none⟩)] W (PostR (VX W.heap.size) W p E o (join o M))):
  Calls Tryz.prog 227 #[.pointer (some ⟨p,0,none⟩)] w (PostR (VX w.heap.size) w p E o (unitM join E o L)):=by
 have H:=Lib.hid h
 have HASK:=Lib.hid ask
 have HFIT:=Lib.hid hfit
 have hpl:=h.lt
 have HB0:=Lib.hid (bl_alloc (o:= .cells #[.int .i64 0,.int .i64 0,.string ⟨#[]⟩,.slice none 0 0,.slice none 0 0,.bool false,.slice none 0 0] 35) (Below.refl w.heap.size w))
 have HZ:=Lib.hid (Bx.new w #[.int .i64 0,.int .i64 0,.string ⟨#[]⟩,.slice none 0 0,.slice none 0 0,.bool false,.slice none 0 0] 35)
 obtain ⟨k,n,at_,S,ht⟩:=pk_get E L
 have HTK:=Lib.hid ht
 obtain ⟨R,hR1⟩:∃R,R=unitM join E o L:=⟨_,rfl⟩
 rw [←hR1]
 unfold unitM at hR1
 rw [ht] at hR1
 dsimp only at hR1
 clear h ask hfit
 by_cases hk1:k=1
 ·subst hk1
  rw [if_pos (.inl rfl)] at hR1
  clear ht
  cases hq0:numM E L with
  |bad x y=>
   have HNU:=Lib.hid hq0
   have HR:Hid (R= .bad x y):=Lib.hid (by rw [hR1,hq0];rfl)
   clear hR1 hq0
   go_enter Tryz.func227,Tryz.ntmps227
   go_wp2_with (first
    |(go_at_call 96;refine (next_as _ _ _ _ _ _ _ _ _ _ _ (H.out.below HB0.out) HTK).mono ?_;rintro e x0 ⟨rfl,hb⟩;have hba:=bl_alloc (o:= .cells #[.int .i64 1,.int .i64 n,.string S,.int .i64 at_] 155) hb;have HP0:=Lib.hid ((H.out.below HB0.out).below hba);have HK0:=Lib.hid ((Keep.of_below (B:=p) HB0.out).trans (.of_below hba));have HZ0:=Lib.hid (HZ.out.below hba);have HT0:=Lib.hid (Bx.new x0 #[.int .i64 1,.int .i64 n,.string S,.int .i64 at_] 155);have hbx:=Nat.lt_of_lt_of_le HZ.out.lt hb.size;have hto:=Lib.hid (show p<x0.heap.size∧w.heap.size<x0.heap.size from ⟨by omega,by omega⟩);clear hb hba hbx)
    |(go_at_call 229;refine (number_as _ _ _ _ _ _ _ _ HP0.out HNU).mono ?_;rintro e x9 hq;obtain ⟨rfl,hKm⟩:=hq.no;have HK9:=Lib.hid (HK0.out.trans hKm);clear hq hKm))
   exact ⟨rfl,.mkN HR.out HK9.out⟩
  |ok N M=>
   have HNU:=Lib.hid hq0
   have HR:Hid (R= .ok (leaf 1 N) M):=Lib.hid (by rw [hR1,hq0];rfl)
   clear hR1 hq0
   go_enter Tryz.func227,Tryz.ntmps227
   go_wp2_with (first
    |(go_at_call 96;refine (next_as _ _ _ _ _ _ _ _ _ _ _ (H.out.below HB0.out) HTK).mono ?_;rintro e x0 ⟨rfl,hb⟩;have hba:=bl_alloc (o:= .cells #[.int .i64 1,.int .i64 n,.string S,.int .i64 at_] 155) hb;have HP0:=Lib.hid ((H.out.below HB0.out).below hba);have HK0:=Lib.hid ((Keep.of_below (B:=p) HB0.out).trans (.of_below hba));have HZ0:=Lib.hid (HZ.out.below hba);have HT0:=Lib.hid (Bx.new x0 #[.int .i64 1,.int .i64 n,.string S,.int .i64 at_] 155);have hbx:=Nat.lt_of_lt_of_le HZ.out.lt hb.size;have hto:=Lib.hid (show p<x0.heap.size∧w.heap.size<x0.heap.size from ⟨by omega,by omega⟩);clear hb hba hbx)
    |(go_at_call 229;refine (number_as _ _ _ _ _ _ _ _ HP0.out HNU).mono ?_;rintro e x9 hq;obtain ⟨v,a9,cp9,rfl,hv,hPm,hKm⟩:=hq.yes;obtain rfl:=hv;have HP9:=Lib.hid hPm;have HK9:=Lib.hid (HK0.out.trans hKm);have HZ9:=Lib.hid (HZ0.out.keep hKm (by omega));have HT9:=Lib.hid (HT0.out.keep hKm (by have:=hto.out;omega));have hzb:=HZ9.out;have m0:=hzb.cell 0 rfl;have m1:=hzb.cell 1 rfl;have m2:=hzb.cell 2 rfl;have m3:=hzb.cell 3 rfl;have m4:=hzb.cell 4 rfl;have m5:=hzb.cell 5 rfl;have m6:=hzb.cell 6 rfl;have mf:=hzb.fz;clear hzb;clear hPm hKm hq))
   refine bodyPost_ret (v:= .agg #[.int .i64 1,.int .i64 N,.string ⟨#[]⟩,.slice none 0 0,.slice none 0 0,.bool false,.slice none 0 0]) (by simp [results,Tryz.results227,go_sem,m0,m1,m2,m3,m4,m5,m6]) rfl ?_
   exact put_end (x:=x9) ⟨1,N,⟨#[]⟩,none,0,0,none,0,0,false,none,0,0⟩ HR.out (XB.lf _ _) HP9.out HK9.out hpl
 ·have hn1:(k==1)=false:=by simpa using hk1
  cases h45:isB [45] L with
  |true=>
   rw [if_pos (.inr h45)] at hR1
   have HM1:Hid (isB (ByteArray.toList ⟨#[45]⟩) L=true):=Lib.hid ((isL [45] L).trans h45)
   clear ht hk1 h45
   cases hq0:numM E L with
   |bad x y=>
    have HNU:=Lib.hid hq0
    have HR:Hid (R= .bad x y):=Lib.hid (by rw [hR1,hq0];rfl)
    clear hR1 hq0
    go_enter Tryz.func227,Tryz.ntmps227
    go_wp2_with (first
     |(go_at_call 96;refine (next_as _ _ _ _ _ _ _ _ _ _ _ (H.out.below HB0.out) HTK).mono ?_;rintro e x0 ⟨rfl,hb⟩;have hba:=bl_alloc (o:= .cells #[.int .i64 k,.int .i64 n,.string S,.int .i64 at_] 155) hb;have HP0:=Lib.hid ((H.out.below HB0.out).below hba);have HK0:=Lib.hid ((Keep.of_below (B:=p) HB0.out).trans (.of_below hba));have HZ0:=Lib.hid (HZ.out.below hba);have HT0:=Lib.hid (Bx.new x0 #[.int .i64 k,.int .i64 n,.string S,.int .i64 at_] 155);have hbx:=Nat.lt_of_lt_of_le HZ.out.lt hb.size;have hto:=Lib.hid (show p<x0.heap.size∧w.heap.size<x0.heap.size from ⟨by omega,by omega⟩);clear hb hba hbx)
     |(go_at_call 204;(with_reducible refine (is_as _ _ _ _ _ _ _ _ _ HP0.out HM1).mono ?_);rintro e x1 ⟨rfl,hb⟩;have HP1:=Lib.hid (HP0.out.below hb);have HK1:=Lib.hid (HK0.out.trans (.of_below hb));have HZ1:=Lib.hid (HZ0.out.below hb);have HT1:=Lib.hid (HT0.out.below hb);clear hb)
     |(go_at_call 229;refine (number_as _ _ _ _ _ _ _ _ HP1.out HNU).mono ?_;rintro e x9 hq;obtain ⟨rfl,hKm⟩:=hq.no;have HK9:=Lib.hid (HK1.out.trans hKm);clear hq hKm))
    exact ⟨rfl,.mkN HR.out HK9.out⟩
   |ok N M=>
    have HNU:=Lib.hid hq0
    have HR:Hid (R= .ok (leaf 1 N) M):=Lib.hid (by rw [hR1,hq0];rfl)
    clear hR1 hq0
    go_enter Tryz.func227,Tryz.ntmps227
    go_wp2_with (first
     |(go_at_call 96;refine (next_as _ _ _ _ _ _ _ _ _ _ _ (H.out.below HB0.out) HTK).mono ?_;rintro e x0 ⟨rfl,hb⟩;have hba:=bl_alloc (o:= .cells #[.int .i64 k,.int .i64 n,.string S,.int .i64 at_] 155) hb;have HP0:=Lib.hid ((H.out.below HB0.out).below hba);have HK0:=Lib.hid ((Keep.of_below (B:=p) HB0.out).trans (.of_below hba));have HZ0:=Lib.hid (HZ.out.below hba);have HT0:=Lib.hid (Bx.new x0 #[.int .i64 k,.int .i64 n,.string S,.int .i64 at_] 155);have hbx:=Nat.lt_of_lt_of_le HZ.out.lt hb.size;have hto:=Lib.hid (show p<x0.heap.size∧w.heap.size<x0.heap.size from ⟨by omega,by omega⟩);clear hb hba hbx)
     |(go_at_call 204;(with_reducible refine (is_as _ _ _ _ _ _ _ _ _ HP0.out HM1).mono ?_);rintro e x1 ⟨rfl,hb⟩;have HP1:=Lib.hid (HP0.out.below hb);have HK1:=Lib.hid (HK0.out.trans (.of_below hb));have HZ1:=Lib.hid (HZ0.out.below hb);have HT1:=Lib.hid (HT0.out.below hb);clear hb)
     |(go_at_call 229;refine (number_as _ _ _ _ _ _ _ _ HP1.out HNU).mono ?_;rintro e x9 hq;obtain ⟨v,a9,cp9,rfl,hv,hPm,hKm⟩:=hq.yes;obtain rfl:=hv;have HP9:=Lib.hid hPm;have HK9:=Lib.hid (HK1.out.trans hKm);have HZ9:=Lib.hid (HZ1.out.keep hKm (by omega));have HT9:=Lib.hid (HT1.out.keep hKm (by have:=hto.out;omega));have hzb:=HZ9.out;have m0:=hzb.cell 0 rfl;have m1:=hzb.cell 1 rfl;have m2:=hzb.cell 2 rfl;have m3:=hzb.cell 3 rfl;have m4:=hzb.cell 4 rfl;have m5:=hzb.cell 5 rfl;have m6:=hzb.cell 6 rfl;have mf:=hzb.fz;clear hzb;clear hPm hKm hq))
    refine bodyPost_ret (v:= .agg #[.int .i64 1,.int .i64 N,.string ⟨#[]⟩,.slice none 0 0,.slice none 0 0,.bool false,.slice none 0 0]) (by simp [results,Tryz.results227,go_sem,m0,m1,m2,m3,m4,m5,m6]) rfl ?_
    exact put_end (x:=x9) ⟨1,N,⟨#[]⟩,none,0,0,none,0,0,false,none,0,0⟩ HR.out (XB.lf _ _) HP9.out HK9.out hpl
  |false=>
   rw [if_neg (by simp [hk1,h45])] at hR1
   have HM1:Hid (isB (ByteArray.toList ⟨#[45]⟩) L=false):=Lib.hid ((isL [45] L).trans h45)
   cases hge:isB [62,61] L with
   |true=>
    rw [hge,if_pos rfl] at hR1
    have HM2:Hid (isB (ByteArray.toList ⟨#[62,61]⟩) L=true∧(if true then L.tail else L)=L.tail):=Lib.hid ⟨(isL [62,61] L).trans hge,rfl⟩
    clear ht hk1 h45 hge
    cases hq0:numM E L.tail with
    |bad x y=>
     have HNU:=Lib.hid hq0
     have HR:Hid (R= .bad x y):=Lib.hid (by rw [hR1,hq0];rfl)
     clear hR1 hq0
     go_enter Tryz.func227,Tryz.ntmps227
     go_wp2_with (first
      |(go_at_call 96;refine (next_as _ _ _ _ _ _ _ _ _ _ _ (H.out.below HB0.out) HTK).mono ?_;rintro e x0 ⟨rfl,hb⟩;have hba:=bl_alloc (o:= .cells #[.int .i64 k,.int .i64 n,.string S,.int .i64 at_] 155) hb;have HP0:=Lib.hid ((H.out.below HB0.out).below hba);have HK0:=Lib.hid ((Keep.of_below (B:=p) HB0.out).trans (.of_below hba));have HZ0:=Lib.hid (HZ.out.below hba);have HT0:=Lib.hid (Bx.new x0 #[.int .i64 k,.int .i64 n,.string S,.int .i64 at_] 155);have hbx:=Nat.lt_of_lt_of_le HZ.out.lt hb.size;have hto:=Lib.hid (show p<x0.heap.size∧w.heap.size<x0.heap.size from ⟨by omega,by omega⟩);clear hb hba hbx)
      |(go_at_call 204;(with_reducible refine (is_as _ _ _ _ _ _ _ _ _ HP0.out HM1).mono ?_);rintro e x1 ⟨rfl,hb⟩;have HP1:=Lib.hid (HP0.out.below hb);have HK1:=Lib.hid (HK0.out.trans (.of_below hb));have HZ1:=Lib.hid (HZ0.out.below hb);have HT1:=Lib.hid (HT0.out.below hb);clear hb)
      |(go_at_call 164;(with_reducible refine (may_as _ _ _ _ _ _ _ _ _ _ HP1.out HM2).mono ?_);rintro e x2 hq;obtain ⟨v,a2,cp2,rfl,hv,hPm,hKm⟩:=hq.yes;obtain rfl:=hv;have HP2:=Lib.hid hPm;have HK2:=Lib.hid (HK1.out.trans hKm);have HZ2:=Lib.hid (HZ1.out.keep hKm (by omega));have HT2:=Lib.hid (HT1.out.keep hKm (by have:=hto.out;omega));clear hPm hKm hq)
      |(go_at_call 229;refine (number_as _ _ _ _ _ _ _ _ HP2.out HNU).mono ?_;rintro e x9 hq;obtain ⟨rfl,hKm⟩:=hq.no;have HK9:=Lib.hid (HK2.out.trans hKm);clear hq hKm))
     exact ⟨rfl,.mkN HR.out HK9.out⟩
    |ok N M=>
     have HNU:=Lib.hid hq0
     have HR:Hid (R= .ok (leaf 7 N) M):=Lib.hid (by rw [hR1,hq0];rfl)
     clear hR1 hq0
     go_enter Tryz.func227,Tryz.ntmps227
     go_wp2_with (first
      |(go_at_call 96;refine (next_as _ _ _ _ _ _ _ _ _ _ _ (H.out.below HB0.out) HTK).mono ?_;rintro e x0 ⟨rfl,hb⟩;have hba:=bl_alloc (o:= .cells #[.int .i64 k,.int .i64 n,.string S,.int .i64 at_] 155) hb;have HP0:=Lib.hid ((H.out.below HB0.out).below hba);have HK0:=Lib.hid ((Keep.of_below (B:=p) HB0.out).trans (.of_below hba));have HZ0:=Lib.hid (HZ.out.below hba);have HT0:=Lib.hid (Bx.new x0 #[.int .i64 k,.int .i64 n,.string S,.int .i64 at_] 155);have hbx:=Nat.lt_of_lt_of_le HZ.out.lt hb.size;have hto:=Lib.hid (show p<x0.heap.size∧w.heap.size<x0.heap.size from ⟨by omega,by omega⟩);clear hb hba hbx)
      |(go_at_call 204;(with_reducible refine (is_as _ _ _ _ _ _ _ _ _ HP0.out HM1).mono ?_);rintro e x1 ⟨rfl,hb⟩;have HP1:=Lib.hid (HP0.out.below hb);have HK1:=Lib.hid (HK0.out.trans (.of_below hb));have HZ1:=Lib.hid (HZ0.out.below hb);have HT1:=Lib.hid (HT0.out.below hb);clear hb)
      |(go_at_call 164;(with_reducible refine (may_as _ _ _ _ _ _ _ _ _ _ HP1.out HM2).mono ?_);rintro e x2 hq;obtain ⟨v,a2,cp2,rfl,hv,hPm,hKm⟩:=hq.yes;obtain rfl:=hv;have HP2:=Lib.hid hPm;have HK2:=Lib.hid (HK1.out.trans hKm);have HZ2:=Lib.hid (HZ1.out.keep hKm (by omega));have HT2:=Lib.hid (HT1.out.keep hKm (by have:=hto.out;omega));clear hPm hKm hq)
      |(go_at_call 229;refine (number_as _ _ _ _ _ _ _ _ HP2.out HNU).mono ?_;rintro e x9 hq;obtain ⟨v,a9,cp9,rfl,hv,hPm,hKm⟩:=hq.yes;obtain rfl:=hv;have HP9:=Lib.hid hPm;have HK9:=Lib.hid (HK2.out.trans hKm);have HZ9:=Lib.hid (HZ2.out.keep hKm (by omega));have HT9:=Lib.hid (HT2.out.keep hKm (by have:=hto.out;omega));have hzb:=HZ9.out;have m0:=hzb.cell 0 rfl;have m1:=hzb.cell 1 rfl;have m2:=hzb.cell 2 rfl;have m3:=hzb.cell 3 rfl;have m4:=hzb.cell 4 rfl;have m5:=hzb.cell 5 rfl;have m6:=hzb.cell 6 rfl;have mf:=hzb.fz;clear hzb;clear hPm hKm hq))
     refine bodyPost_ret (v:= .agg #[.int .i64 7,.int .i64 N,.string ⟨#[]⟩,.slice none 0 0,.slice none 0 0,.bool false,.slice none 0 0]) (by simp [results,Tryz.results227,go_sem,m0,m1,m2,m3,m4,m5,m6]) rfl ?_
     exact put_end (x:=x9) ⟨7,N,⟨#[]⟩,none,0,0,none,0,0,false,none,0,0⟩ HR.out (XB.lf _ _) HP9.out HK9.out hpl
   |false=>
    rw [hge,if_neg (by decide)] at hR1
    have HM2:Hid (isB (ByteArray.toList ⟨#[62,61]⟩) L=false∧(if false then L.tail else L)=L):=Lib.hid ⟨(isL [62,61] L).trans hge,rfl⟩
    cases hle:isB [60,61] L with
    |true=>
     rw [hle,if_pos rfl] at hR1
     have HM3:Hid (isB (ByteArray.toList ⟨#[60,61]⟩) L=true∧(if true then L.tail else L)=L.tail):=Lib.hid ⟨(isL [60,61] L).trans hle,rfl⟩
     clear ht hk1 h45 hge hle
     cases hq0:numM E L.tail with
     |bad x y=>
      have HNU:=Lib.hid hq0
      have HR:Hid (R= .bad x y):=Lib.hid (by rw [hR1,hq0];rfl)
      clear hR1 hq0
      go_enter Tryz.func227,Tryz.ntmps227
      go_wp2_with (first
       |(go_at_call 96;refine (next_as _ _ _ _ _ _ _ _ _ _ _ (H.out.below HB0.out) HTK).mono ?_;rintro e x0 ⟨rfl,hb⟩;have hba:=bl_alloc (o:= .cells #[.int .i64 k,.int .i64 n,.string S,.int .i64 at_] 155) hb;have HP0:=Lib.hid ((H.out.below HB0.out).below hba);have HK0:=Lib.hid ((Keep.of_below (B:=p) HB0.out).trans (.of_below hba));have HZ0:=Lib.hid (HZ.out.below hba);have HT0:=Lib.hid (Bx.new x0 #[.int .i64 k,.int .i64 n,.string S,.int .i64 at_] 155);have hbx:=Nat.lt_of_lt_of_le HZ.out.lt hb.size;have hto:=Lib.hid (show p<x0.heap.size∧w.heap.size<x0.heap.size from ⟨by omega,by omega⟩);clear hb hba hbx)
       |(go_at_call 204;(with_reducible refine (is_as _ _ _ _ _ _ _ _ _ HP0.out HM1).mono ?_);rintro e x1 ⟨rfl,hb⟩;have HP1:=Lib.hid (HP0.out.below hb);have HK1:=Lib.hid (HK0.out.trans (.of_below hb));have HZ1:=Lib.hid (HZ0.out.below hb);have HT1:=Lib.hid (HT0.out.below hb);clear hb)
       |(go_at_call 164;(with_reducible refine (may_as _ _ _ _ _ _ _ _ _ _ HP1.out HM2).mono ?_);rintro e x2 hq;obtain ⟨v,a2,cp2,rfl,hv,hPm,hKm⟩:=hq.yes;obtain rfl:=hv;have HP2:=Lib.hid hPm;have HK2:=Lib.hid (HK1.out.trans hKm);have HZ2:=Lib.hid (HZ1.out.keep hKm (by omega));have HT2:=Lib.hid (HT1.out.keep hKm (by have:=hto.out;omega));clear hPm hKm hq)
       |(go_at_call 164;(with_reducible refine (may_as _ _ _ _ _ _ _ _ _ _ HP2.out HM3).mono ?_);rintro e x3 hq;obtain ⟨v,a3,cp3,rfl,hv,hPm,hKm⟩:=hq.yes;obtain rfl:=hv;have HP3:=Lib.hid hPm;have HK3:=Lib.hid (HK2.out.trans hKm);have HZ3:=Lib.hid (HZ2.out.keep hKm (by omega));have HT3:=Lib.hid (HT2.out.keep hKm (by have:=hto.out;omega));clear hPm hKm hq)
       |(go_at_call 229;refine (number_as _ _ _ _ _ _ _ _ HP3.out HNU).mono ?_;rintro e x9 hq;obtain ⟨rfl,hKm⟩:=hq.no;have HK9:=Lib.hid (HK3.out.trans hKm);clear hq hKm))
      exact ⟨rfl,.mkN HR.out HK9.out⟩
     |ok N M=>
      have HNU:=Lib.hid hq0
      have HR:Hid (R= .ok (leaf 8 N) M):=Lib.hid (by rw [hR1,hq0];rfl)
      clear hR1 hq0
      go_enter Tryz.func227,Tryz.ntmps227
      go_wp2_with (first
       |(go_at_call 96;refine (next_as _ _ _ _ _ _ _ _ _ _ _ (H.out.below HB0.out) HTK).mono ?_;rintro e x0 ⟨rfl,hb⟩;have hba:=bl_alloc (o:= .cells #[.int .i64 k,.int .i64 n,.string S,.int .i64 at_] 155) hb;have HP0:=Lib.hid ((H.out.below HB0.out).below hba);have HK0:=Lib.hid ((Keep.of_below (B:=p) HB0.out).trans (.of_below hba));have HZ0:=Lib.hid (HZ.out.below hba);have HT0:=Lib.hid (Bx.new x0 #[.int .i64 k,.int .i64 n,.string S,.int .i64 at_] 155);have hbx:=Nat.lt_of_lt_of_le HZ.out.lt hb.size;have hto:=Lib.hid (show p<x0.heap.size∧w.heap.size<x0.heap.size from ⟨by omega,by omega⟩);clear hb hba hbx)
       |(go_at_call 204;(with_reducible refine (is_as _ _ _ _ _ _ _ _ _ HP0.out HM1).mono ?_);rintro e x1 ⟨rfl,hb⟩;have HP1:=Lib.hid (HP0.out.below hb);have HK1:=Lib.hid (HK0.out.trans (.of_below hb));have HZ1:=Lib.hid (HZ0.out.below hb);have HT1:=Lib.hid (HT0.out.below hb);clear hb)
       |(go_at_call 164;(with_reducible refine (may_as _ _ _ _ _ _ _ _ _ _ HP1.out HM2).mono ?_);rintro e x2 hq;obtain ⟨v,a2,cp2,rfl,hv,hPm,hKm⟩:=hq.yes;obtain rfl:=hv;have HP2:=Lib.hid hPm;have HK2:=Lib.hid (HK1.out.trans hKm);have HZ2:=Lib.hid (HZ1.out.keep hKm (by omega));have HT2:=Lib.hid (HT1.out.keep hKm (by have:=hto.out;omega));clear hPm hKm hq)
       |(go_at_call 164;(with_reducible refine (may_as _ _ _ _ _ _ _ _ _ _ HP2.out HM3).mono ?_);rintro e x3 hq;obtain ⟨v,a3,cp3,rfl,hv,hPm,hKm⟩:=hq.yes;obtain rfl:=hv;have HP3:=Lib.hid hPm;have HK3:=Lib.hid (HK2.out.trans hKm);have HZ3:=Lib.hid (HZ2.out.keep hKm (by omega));have HT3:=Lib.hid (HT2.out.keep hKm (by have:=hto.out;omega));clear hPm hKm hq)
       |(go_at_call 229;refine (number_as _ _ _ _ _ _ _ _ HP3.out HNU).mono ?_;rintro e x9 hq;obtain ⟨v,a9,cp9,rfl,hv,hPm,hKm⟩:=hq.yes;obtain rfl:=hv;have HP9:=Lib.hid hPm;have HK9:=Lib.hid (HK3.out.trans hKm);have HZ9:=Lib.hid (HZ3.out.keep hKm (by omega));have HT9:=Lib.hid (HT3.out.keep hKm (by have:=hto.out;omega));have hzb:=HZ9.out;have m0:=hzb.cell 0 rfl;have m1:=hzb.cell 1 rfl;have m2:=hzb.cell 2 rfl;have m3:=hzb.cell 3 rfl;have m4:=hzb.cell 4 rfl;have m5:=hzb.cell 5 rfl;have m6:=hzb.cell 6 rfl;have mf:=hzb.fz;clear hzb;clear hPm hKm hq))
      refine bodyPost_ret (v:= .agg #[.int .i64 8,.int .i64 N,.string ⟨#[]⟩,.slice none 0 0,.slice none 0 0,.bool false,.slice none 0 0]) (by simp [results,Tryz.results227,go_sem,m0,m1,m2,m3,m4,m5,m6]) rfl ?_
      exact put_end (x:=x9) ⟨8,N,⟨#[]⟩,none,0,0,none,0,0,false,none,0,0⟩ HR.out (XB.lf _ _) HP9.out HK9.out hpl
    |false=>
     rw [hle,if_neg (by decide)] at hR1
     have HM3:Hid (isB (ByteArray.toList ⟨#[60,61]⟩) L=false∧(if false then L.tail else L)=L):=Lib.hid ⟨(isL [60,61] L).trans hle,rfl⟩
     cases hbr:isB [40] L with
     |true=>
      rw [hbr,if_pos rfl] at hR1
      have HM4:Hid (isB (ByteArray.toList ⟨#[40]⟩) L=true):=Lib.hid ((isL [40] L).trans hbr)
      clear ht hk1 h45 hge hle
      obtain ⟨t,T,rfl,_,_⟩:=isB_cons hbr
      have HASK2:Hid (¬o=16→∀(W:World) (a:Option Addr) (cap:Nat),Prs W p a cap T E (o+1)→Calls Tryz.prog 145 #[.pointer (some ⟨p,0,none⟩)] W (PostR (VX W.heap.size) W p E (o+1) (join (o+1) T))):=Lib.hid (fun h16 W a cap hP=>HASK.out W a cap T (o+1) (by omega) (by omega) (Nat.le_refl _) hP)
      cases hq0:brM join E [41] o (t::T) with
      |bad x y=>
       have HBR:=Lib.hid hq0
       have HR:Hid (R= .bad x y):=Lib.hid (by rw [hR1,hq0])
       clear hR1 hq0
       go_enter Tryz.func227,Tryz.ntmps227
       go_wp2_with (first
        |(go_at_call 96;refine (next_as _ _ _ _ _ _ _ _ _ _ _ (H.out.below HB0.out) HTK).mono ?_;rintro e x0 ⟨rfl,hb⟩;have hba:=bl_alloc (o:= .cells #[.int .i64 k,.int .i64 n,.string S,.int .i64 at_] 155) hb;have HP0:=Lib.hid ((H.out.below HB0.out).below hba);have HK0:=Lib.hid ((Keep.of_below (B:=p) HB0.out).trans (.of_below hba));have HZ0:=Lib.hid (HZ.out.below hba);have HT0:=Lib.hid (Bx.new x0 #[.int .i64 k,.int .i64 n,.string S,.int .i64 at_] 155);have hbx:=Nat.lt_of_lt_of_le HZ.out.lt hb.size;have hto:=Lib.hid (show p<x0.heap.size∧w.heap.size<x0.heap.size from ⟨by omega,by omega⟩);clear hb hba hbx)
        |(go_at_call 204;(with_reducible refine (is_as _ _ _ _ _ _ _ _ _ HP0.out HM1).mono ?_);rintro e x1 ⟨rfl,hb⟩;have HP1:=Lib.hid (HP0.out.below hb);have HK1:=Lib.hid (HK0.out.trans (.of_below hb));have HZ1:=Lib.hid (HZ0.out.below hb);have HT1:=Lib.hid (HT0.out.below hb);clear hb)
        |(go_at_call 164;(with_reducible refine (may_as _ _ _ _ _ _ _ _ _ _ HP1.out HM2).mono ?_);rintro e x2 hq;obtain ⟨v,a2,cp2,rfl,hv,hPm,hKm⟩:=hq.yes;obtain rfl:=hv;have HP2:=Lib.hid hPm;have HK2:=Lib.hid (HK1.out.trans hKm);have HZ2:=Lib.hid (HZ1.out.keep hKm (by omega));have HT2:=Lib.hid (HT1.out.keep hKm (by have:=hto.out;omega));clear hPm hKm hq)
        |(go_at_call 164;(with_reducible refine (may_as _ _ _ _ _ _ _ _ _ _ HP2.out HM3).mono ?_);rintro e x3 hq;obtain ⟨v,a3,cp3,rfl,hv,hPm,hKm⟩:=hq.yes;obtain rfl:=hv;have HP3:=Lib.hid hPm;have HK3:=Lib.hid (HK2.out.trans hKm);have HZ3:=Lib.hid (HZ2.out.keep hKm (by omega));have HT3:=Lib.hid (HT2.out.keep hKm (by have:=hto.out;omega));clear hPm hKm hq)
        |(go_at_call 204;(with_reducible refine (is_as _ _ _ _ _ _ _ _ _ HP3.out HM4).mono ?_);rintro e x4 ⟨rfl,hb⟩;have HP4:=Lib.hid (HP3.out.below hb);have HK4:=Lib.hid (HK3.out.trans (.of_below hb));have HZ4:=Lib.hid (HZ3.out.below hb);have HT4:=Lib.hid (HT3.out.below hb);clear hb)
        |(go_at_call 230;refine (br_join join _ _ _ _ t T _ _ HP4.out ho HASK2.out).mono ?_;rintro e x9 hq;rw [HBR.out] at hq;obtain ⟨rfl,hKm⟩:=hq.no;have HK9:=Lib.hid (HK4.out.trans hKm);clear hq hKm))
       exact ⟨rfl,.mkN HR.out HK9.out⟩
      |ok x M=>
       have HBR:=Lib.hid hq0
       have HR:Hid (R= .ok x M):=Lib.hid (by rw [hR1,hq0])
       clear hR1 hq0
       go_enter Tryz.func227,Tryz.ntmps227
       go_wp2_with (first
        |(go_at_call 96;refine (next_as _ _ _ _ _ _ _ _ _ _ _ (H.out.below HB0.out) HTK).mono ?_;rintro e x0 ⟨rfl,hb⟩;have hba:=bl_alloc (o:= .cells #[.int .i64 k,.int .i64 n,.string S,.int .i64 at_] 155) hb;have HP0:=Lib.hid ((H.out.below HB0.out).below hba);have HK0:=Lib.hid ((Keep.of_below (B:=p) HB0.out).trans (.of_below hba));have HZ0:=Lib.hid (HZ.out.below hba);have HT0:=Lib.hid (Bx.new x0 #[.int .i64 k,.int .i64 n,.string S,.int .i64 at_] 155);have hbx:=Nat.lt_of_lt_of_le HZ.out.lt hb.size;have hto:=Lib.hid (show p<x0.heap.size∧w.heap.size<x0.heap.size from ⟨by omega,by omega⟩);clear hb hba hbx)
        |(go_at_call 204;(with_reducible refine (is_as _ _ _ _ _ _ _ _ _ HP0.out HM1).mono ?_);rintro e x1 ⟨rfl,hb⟩;have HP1:=Lib.hid (HP0.out.below hb);have HK1:=Lib.hid (HK0.out.trans (.of_below hb));have HZ1:=Lib.hid (HZ0.out.below hb);have HT1:=Lib.hid (HT0.out.below hb);clear hb)
        |(go_at_call 164;(with_reducible refine (may_as _ _ _ _ _ _ _ _ _ _ HP1.out HM2).mono ?_);rintro e x2 hq;obtain ⟨v,a2,cp2,rfl,hv,hPm,hKm⟩:=hq.yes;obtain rfl:=hv;have HP2:=Lib.hid hPm;have HK2:=Lib.hid (HK1.out.trans hKm);have HZ2:=Lib.hid (HZ1.out.keep hKm (by omega));have HT2:=Lib.hid (HT1.out.keep hKm (by have:=hto.out;omega));clear hPm hKm hq)
        |(go_at_call 164;(with_reducible refine (may_as _ _ _ _ _ _ _ _ _ _ HP2.out HM3).mono ?_);rintro e x3 hq;obtain ⟨v,a3,cp3,rfl,hv,hPm,hKm⟩:=hq.yes;obtain rfl:=hv;have HP3:=Lib.hid hPm;have HK3:=Lib.hid (HK2.out.trans hKm);have HZ3:=Lib.hid (HZ2.out.keep hKm (by omega));have HT3:=Lib.hid (HT2.out.keep hKm (by have:=hto.out;omega));clear hPm hKm hq)
        |(go_at_call 204;(with_reducible refine (is_as _ _ _ _ _ _ _ _ _ HP3.out HM4).mono ?_);rintro e x4 ⟨rfl,hb⟩;have HP4:=Lib.hid (HP3.out.below hb);have HK4:=Lib.hid (HK3.out.trans (.of_below hb));have HZ4:=Lib.hid (HZ3.out.below hb);have HT4:=Lib.hid (HT3.out.below hb);clear hb)
        |(go_at_call 230;refine (br_join join _ _ _ _ t T _ _ HP4.out ho HASK2.out).mono ?_;rintro e x9 hq;rw [HBR.out] at hq;obtain ⟨v,a9,cp9,rfl,hv,hPm,hKm⟩:=hq.yes;obtain ⟨op2,nn2,s2,p2,pl2,pc2,q2,ql2,qc2,o2,k2,kl2,kc2,rfl,hX⟩:=VX.hd hv;have HX9:=Lib.hid hX;clear hX;have HXZ:=Lib.hid (HX9.out.less (Q:=fun b=>w.heap.size+1≤b) (fun b lt hb=>by have h1:=HZ4.out.lt;have hb2:_≤b:=hb;omega));have HP9:=Lib.hid hPm;have HK9:=Lib.hid (HK4.out.trans hKm);have HZ9:=Lib.hid (HZ4.out.keep hKm (by omega));have hzb:=HZ9.out;have m0:=hzb.cell 0 rfl;have m1:=hzb.cell 1 rfl;have m2:=hzb.cell 2 rfl;have m3:=hzb.cell 3 rfl;have m4:=hzb.cell 4 rfl;have m5:=hzb.cell 5 rfl;have m6:=hzb.cell 6 rfl;have mf:=hzb.fz;clear hzb;clear hPm hKm hq))
       refine bodyPost_ret (v:= .agg #[.int .i64 op2,.int .i64 nn2,.string s2,.slice p2 pl2 pc2,.slice q2 ql2 qc2,.bool o2,.slice k2 kl2 kc2]) (by simp [results,Tryz.results227,go_sem,m0,m1,m2,m3,m4,m5,m6]) rfl ?_
       exact put_end (x:=x9) ⟨op2,nn2,s2,p2,pl2,pc2,q2,ql2,qc2,o2,k2,kl2,kc2⟩ HR.out (HXZ.out) HP9.out HK9.out hpl
     |false=>
      rw [hbr,if_neg (by decide)] at hR1
      have HM4:Hid (isB (ByteArray.toList ⟨#[40]⟩) L=false):=Lib.hid ((isL [40] L).trans hbr)
      cases hbc:isB [123] L with
      |true=>
       rw [hbc,if_pos rfl] at hR1
       have HM5:Hid (isB (ByteArray.toList ⟨#[123]⟩) L=true):=Lib.hid ((isL [123] L).trans hbc)
       clear ht hk1 h45 hge hle hbr
       obtain ⟨t,T,rfl,_,_⟩:=isB_cons hbc
       have HASK2:Hid (¬o=16→∀(W:World) (a:Option Addr) (cap:Nat),Prs W p a cap T E (o+1)→Calls Tryz.prog 231 #[.pointer (some ⟨p,0,none⟩)] W (PostR (VX W.heap.size) W p E (o+1) ((fun o L=>fieldsM (join o) E L) (o+1) T))):=Lib.hid (fun h16 W a cap hP=>fields_any (join (o+1)) W p cap a T E (o+1) hP (HFIT.out (o+1)) (fun W a cap M hM hP=>HASK.out W a cap M (o+1) (by omega) (by omega) (by simp;omega) hP))
       cases hq0:brM (fun o L=>fieldsM (join o) E L) E [125] o (t::T) with
       |bad x y=>
        have HBR:=Lib.hid hq0
        have HR:Hid (R= .bad x y):=Lib.hid (by rw [hR1,hq0])
        clear hR1 hq0
        go_enter Tryz.func227,Tryz.ntmps227
        go_wp2_with (first
         |(go_at_call 96;refine (next_as _ _ _ _ _ _ _ _ _ _ _ (H.out.below HB0.out) HTK).mono ?_;rintro e x0 ⟨rfl,hb⟩;have hba:=bl_alloc (o:= .cells #[.int .i64 k,.int .i64 n,.string S,.int .i64 at_] 155) hb;have HP0:=Lib.hid ((H.out.below HB0.out).below hba);have HK0:=Lib.hid ((Keep.of_below (B:=p) HB0.out).trans (.of_below hba));have HZ0:=Lib.hid (HZ.out.below hba);have HT0:=Lib.hid (Bx.new x0 #[.int .i64 k,.int .i64 n,.string S,.int .i64 at_] 155);have hbx:=Nat.lt_of_lt_of_le HZ.out.lt hb.size;have hto:=Lib.hid (show p<x0.heap.size∧w.heap.size<x0.heap.size from ⟨by omega,by omega⟩);clear hb hba hbx)
         |(go_at_call 204;(with_reducible refine (is_as _ _ _ _ _ _ _ _ _ HP0.out HM1).mono ?_);rintro e x1 ⟨rfl,hb⟩;have HP1:=Lib.hid (HP0.out.below hb);have HK1:=Lib.hid (HK0.out.trans (.of_below hb));have HZ1:=Lib.hid (HZ0.out.below hb);have HT1:=Lib.hid (HT0.out.below hb);clear hb)
         |(go_at_call 164;(with_reducible refine (may_as _ _ _ _ _ _ _ _ _ _ HP1.out HM2).mono ?_);rintro e x2 hq;obtain ⟨v,a2,cp2,rfl,hv,hPm,hKm⟩:=hq.yes;obtain rfl:=hv;have HP2:=Lib.hid hPm;have HK2:=Lib.hid (HK1.out.trans hKm);have HZ2:=Lib.hid (HZ1.out.keep hKm (by omega));have HT2:=Lib.hid (HT1.out.keep hKm (by have:=hto.out;omega));clear hPm hKm hq)
         |(go_at_call 164;(with_reducible refine (may_as _ _ _ _ _ _ _ _ _ _ HP2.out HM3).mono ?_);rintro e x3 hq;obtain ⟨v,a3,cp3,rfl,hv,hPm,hKm⟩:=hq.yes;obtain rfl:=hv;have HP3:=Lib.hid hPm;have HK3:=Lib.hid (HK2.out.trans hKm);have HZ3:=Lib.hid (HZ2.out.keep hKm (by omega));have HT3:=Lib.hid (HT2.out.keep hKm (by have:=hto.out;omega));clear hPm hKm hq)
         |(go_at_call 204;(with_reducible refine (is_as _ _ _ _ _ _ _ _ _ HP3.out HM4).mono ?_);rintro e x4 ⟨rfl,hb⟩;have HP4:=Lib.hid (HP3.out.below hb);have HK4:=Lib.hid (HK3.out.trans (.of_below hb));have HZ4:=Lib.hid (HZ3.out.below hb);have HT4:=Lib.hid (HT3.out.below hb);clear hb)
         |(go_at_call 204;(with_reducible refine (is_as _ _ _ _ _ _ _ _ _ HP4.out HM5).mono ?_);rintro e x5 ⟨rfl,hb⟩;have HP5:=Lib.hid (HP4.out.below hb);have HK5:=Lib.hid (HK4.out.trans (.of_below hb));have HZ5:=Lib.hid (HZ4.out.below hb);have HT5:=Lib.hid (HT4.out.below hb);clear hb)
         |(go_at_call 230;refine (br_fields (fun o L=>fieldsM (join o) E L) _ _ _ _ t T _ _ HP5.out ho HASK2.out).mono ?_;rintro e x9 hq;rw [HBR.out] at hq;obtain ⟨rfl,hKm⟩:=hq.no;have HK9:=Lib.hid (HK5.out.trans hKm);clear hq hKm))
        exact ⟨rfl,.mkN HR.out HK9.out⟩
       |ok x M=>
        have HBR:=Lib.hid hq0
        have HR:Hid (R= .ok x M):=Lib.hid (by rw [hR1,hq0])
        clear hR1 hq0
        go_enter Tryz.func227,Tryz.ntmps227
        go_wp2_with (first
         |(go_at_call 96;refine (next_as _ _ _ _ _ _ _ _ _ _ _ (H.out.below HB0.out) HTK).mono ?_;rintro e x0 ⟨rfl,hb⟩;have hba:=bl_alloc (o:= .cells #[.int .i64 k,.int .i64 n,.string S,.int .i64 at_] 155) hb;have HP0:=Lib.hid ((H.out.below HB0.out).below hba);have HK0:=Lib.hid ((Keep.of_below (B:=p) HB0.out).trans (.of_below hba));have HZ0:=Lib.hid (HZ.out.below hba);have HT0:=Lib.hid (Bx.new x0 #[.int .i64 k,.int .i64 n,.string S,.int .i64 at_] 155);have hbx:=Nat.lt_of_lt_of_le HZ.out.lt hb.size;have hto:=Lib.hid (show p<x0.heap.size∧w.heap.size<x0.heap.size from ⟨by omega,by omega⟩);clear hb hba hbx)
         |(go_at_call 204;(with_reducible refine (is_as _ _ _ _ _ _ _ _ _ HP0.out HM1).mono ?_);rintro e x1 ⟨rfl,hb⟩;have HP1:=Lib.hid (HP0.out.below hb);have HK1:=Lib.hid (HK0.out.trans (.of_below hb));have HZ1:=Lib.hid (HZ0.out.below hb);have HT1:=Lib.hid (HT0.out.below hb);clear hb)
         |(go_at_call 164;(with_reducible refine (may_as _ _ _ _ _ _ _ _ _ _ HP1.out HM2).mono ?_);rintro e x2 hq;obtain ⟨v,a2,cp2,rfl,hv,hPm,hKm⟩:=hq.yes;obtain rfl:=hv;have HP2:=Lib.hid hPm;have HK2:=Lib.hid (HK1.out.trans hKm);have HZ2:=Lib.hid (HZ1.out.keep hKm (by omega));have HT2:=Lib.hid (HT1.out.keep hKm (by have:=hto.out;omega));clear hPm hKm hq)
         |(go_at_call 164;(with_reducible refine (may_as _ _ _ _ _ _ _ _ _ _ HP2.out HM3).mono ?_);rintro e x3 hq;obtain ⟨v,a3,cp3,rfl,hv,hPm,hKm⟩:=hq.yes;obtain rfl:=hv;have HP3:=Lib.hid hPm;have HK3:=Lib.hid (HK2.out.trans hKm);have HZ3:=Lib.hid (HZ2.out.keep hKm (by omega));have HT3:=Lib.hid (HT2.out.keep hKm (by have:=hto.out;omega));clear hPm hKm hq)
         |(go_at_call 204;(with_reducible refine (is_as _ _ _ _ _ _ _ _ _ HP3.out HM4).mono ?_);rintro e x4 ⟨rfl,hb⟩;have HP4:=Lib.hid (HP3.out.below hb);have HK4:=Lib.hid (HK3.out.trans (.of_below hb));have HZ4:=Lib.hid (HZ3.out.below hb);have HT4:=Lib.hid (HT3.out.below hb);clear hb)
         |(go_at_call 204;(with_reducible refine (is_as _ _ _ _ _ _ _ _ _ HP4.out HM5).mono ?_);rintro e x5 ⟨rfl,hb⟩;have HP5:=Lib.hid (HP4.out.below hb);have HK5:=Lib.hid (HK4.out.trans (.of_below hb));have HZ5:=Lib.hid (HZ4.out.below hb);have HT5:=Lib.hid (HT4.out.below hb);clear hb)
         |(go_at_call 230;refine (br_fields (fun o L=>fieldsM (join o) E L) _ _ _ _ t T _ _ HP5.out ho HASK2.out).mono ?_;rintro e x9 hq;rw [HBR.out] at hq;obtain ⟨v,a9,cp9,rfl,hv,hPm,hKm⟩:=hq.yes;obtain ⟨op2,nn2,s2,p2,pl2,pc2,q2,ql2,qc2,o2,k2,kl2,kc2,rfl,hX⟩:=VX.hd hv;have HX9:=Lib.hid hX;clear hX;have HXZ:=Lib.hid (HX9.out.less (Q:=fun b=>w.heap.size+1≤b) (fun b lt hb=>by have h1:=HZ5.out.lt;have hb2:_≤b:=hb;omega));have HP9:=Lib.hid hPm;have HK9:=Lib.hid (HK5.out.trans hKm);have HZ9:=Lib.hid (HZ5.out.keep hKm (by omega));have hzb:=HZ9.out;have m0:=hzb.cell 0 rfl;have m1:=hzb.cell 1 rfl;have m2:=hzb.cell 2 rfl;have m3:=hzb.cell 3 rfl;have m4:=hzb.cell 4 rfl;have m5:=hzb.cell 5 rfl;have m6:=hzb.cell 6 rfl;have mf:=hzb.fz;clear hzb;clear hPm hKm hq))
        refine bodyPost_ret (v:= .agg #[.int .i64 op2,.int .i64 nn2,.string s2,.slice p2 pl2 pc2,.slice q2 ql2 qc2,.bool o2,.slice k2 kl2 kc2]) (by simp [results,Tryz.results227,go_sem,m0,m1,m2,m3,m4,m5,m6]) rfl ?_
        exact put_end (x:=x9) ⟨op2,nn2,s2,p2,pl2,pc2,q2,ql2,qc2,o2,k2,kl2,kc2⟩ HR.out (HXZ.out) HP9.out HK9.out hpl
      |false=>
       rw [hbc,if_neg (by decide)] at hR1
       have HM5:Hid (isB (ByteArray.toList ⟨#[123]⟩) L=false):=Lib.hid ((isL [123] L).trans hbc)
       clear h45 hge hle hbr hbc
       by_cases hk3:k=3
       ·subst hk3
        rw [if_pos rfl] at hR1
        obtain ⟨t,T,rfl,e2⟩:=pk_cons (E:=E) (L:=L) (by rw [ht];show (3:Int)≠0;decide)
        have HR:Hid (R= .ok (.mk 2 0 S [] [] false []) T):=Lib.hid (by rw [hR1,Lx.bs_of];rfl)
        have hsz:S.size≤140737488355328:=by
         have h1:=(pk_ok H.out.ok E).1
         rw [ht] at h1
         dsimp only at h1
         rw [Nm.size_list]
         omega
        clear hR1 ht e2 hk1
        go_enter Tryz.func227,Tryz.ntmps227
        go_wp2_with (first
         |(go_at_call 96;refine (next_as _ _ _ _ _ _ _ _ _ _ _ (H.out.below HB0.out) HTK).mono ?_;rintro e x0 ⟨rfl,hb⟩;have hba:=bl_alloc (o:= .cells #[.int .i64 3,.int .i64 n,.string S,.int .i64 at_] 155) hb;have HP0:=Lib.hid ((H.out.below HB0.out).below hba);have HK0:=Lib.hid ((Keep.of_below (B:=p) HB0.out).trans (.of_below hba));have HZ0:=Lib.hid (HZ.out.below hba);have HT0:=Lib.hid (Bx.new x0 #[.int .i64 3,.int .i64 n,.string S,.int .i64 at_] 155);have hbx:=Nat.lt_of_lt_of_le HZ.out.lt hb.size;have hto:=Lib.hid (show p<x0.heap.size∧w.heap.size<x0.heap.size from ⟨by omega,by omega⟩);clear hb hba hbx)
         |(go_at_call 204;(with_reducible refine (is_as _ _ _ _ _ _ _ _ _ HP0.out HM1).mono ?_);rintro e x1 ⟨rfl,hb⟩;have HP1:=Lib.hid (HP0.out.below hb);have HK1:=Lib.hid (HK0.out.trans (.of_below hb));have HZ1:=Lib.hid (HZ0.out.below hb);have HT1:=Lib.hid (HT0.out.below hb);clear hb)
         |(go_at_call 164;(with_reducible refine (may_as _ _ _ _ _ _ _ _ _ _ HP1.out HM2).mono ?_);rintro e x2 hq;obtain ⟨v,a2,cp2,rfl,hv,hPm,hKm⟩:=hq.yes;obtain rfl:=hv;have HP2:=Lib.hid hPm;have HK2:=Lib.hid (HK1.out.trans hKm);have HZ2:=Lib.hid (HZ1.out.keep hKm (by omega));have HT2:=Lib.hid (HT1.out.keep hKm (by have:=hto.out;omega));clear hPm hKm hq)
         |(go_at_call 164;(with_reducible refine (may_as _ _ _ _ _ _ _ _ _ _ HP2.out HM3).mono ?_);rintro e x3 hq;obtain ⟨v,a3,cp3,rfl,hv,hPm,hKm⟩:=hq.yes;obtain rfl:=hv;have HP3:=Lib.hid hPm;have HK3:=Lib.hid (HK2.out.trans hKm);have HZ3:=Lib.hid (HZ2.out.keep hKm (by omega));have HT3:=Lib.hid (HT2.out.keep hKm (by have:=hto.out;omega));clear hPm hKm hq)
         |(go_at_call 204;(with_reducible refine (is_as _ _ _ _ _ _ _ _ _ HP3.out HM4).mono ?_);rintro e x4 ⟨rfl,hb⟩;have HP4:=Lib.hid (HP3.out.below hb);have HK4:=Lib.hid (HK3.out.trans (.of_below hb));have HZ4:=Lib.hid (HZ3.out.below hb);have HT4:=Lib.hid (HT3.out.below hb);clear hb)
         |(go_at_call 204;(with_reducible refine (is_as _ _ _ _ _ _ _ _ _ HP4.out HM5).mono ?_);rintro e x5 ⟨rfl,hb⟩;have HP5:=Lib.hid (HP4.out.below hb);have HK5:=Lib.hid (HK4.out.trans (.of_below hb));have HZ5:=Lib.hid (HZ4.out.below hb);have HT5:=Lib.hid (HT4.out.below hb);have htb:=HT5.out;have k0:=htb.cell 0 rfl;have k2:=htb.cell 2 rfl;clear htb;clear hb)
         |(go_at_call 141;refine (pass_any _ _ _ _ _ _ _ _ HP5.out).mono ?_;rintro e x9 hq;obtain ⟨v,a9,cp9,rfl,hv,hPm,hKm⟩:=hq.yes;obtain rfl:=hv;have HP9:=Lib.hid hPm;have HK9:=Lib.hid (HK5.out.trans hKm);have HZ9:=Lib.hid (HZ5.out.keep hKm (by omega));have HT9:=Lib.hid (HT5.out.keep hKm (by have:=hto.out;omega));clear k0 k2;have htb:=HT9.out;have k0:=htb.cell 0 rfl;have k2:=htb.cell 2 rfl;clear htb;have hzb:=HZ9.out;have m0:=hzb.cell 0 rfl;have m1:=hzb.cell 1 rfl;have m2:=hzb.cell 2 rfl;have m3:=hzb.cell 3 rfl;have m4:=hzb.cell 4 rfl;have m5:=hzb.cell 5 rfl;have m6:=hzb.cell 6 rfl;have mf:=hzb.fz;clear hzb;clear hPm hKm hq))
        refine bodyPost_ret (v:= .agg #[.int .i64 2,.int .i64 0,.string S,.slice none 0 0,.slice none 0 0,.bool false,.slice none 0 0]) (by simp [results,Tryz.results227,go_sem,m0,m1,m2,m3,m4,m5,m6]) rfl ?_
        exact put_end (x:=x9) ⟨2,0,S,none,0,0,none,0,0,false,none,0,0⟩ HR.out (XB.leaf 2 0 S hsz (str_nil _) (fun h=>absurd h (Nat.lt_irrefl 0))) HP9.out HK9.out hpl
       ·rw [if_neg hk3] at hR1
        have hn3:(k==3)=false:=by simpa using hk3
        by_cases hk2:k=2
        ·subst hk2
         rw [if_pos rfl] at hR1
         obtain ⟨t,T,rfl,e2⟩:=pk_cons (E:=E) (L:=L) (by rw [ht];show (2:Int)≠0;decide)
         have hsz:S.size≤140737488355328:=by
          have h1:=(pk_ok H.out.ok E).1
          rw [ht] at h1
          dsimp only at h1
          rw [Nm.size_list]
          omega
         have HE:=fun W (hW:Prs W p a cap (t::T) E o)=>Lib.hid hW.env
         cases hr:Nm.rightL S.toList with
         |true=>
          have HRT:=Lib.hid hr
          rw [hr,if_pos rfl] at hR1
          cases hq0:pathF E ((t::T).length+1) [] (t::T) with
          |bad x y=>
           have HPA:=Lib.hid hq0
           have HR:Hid (R= .bad x y):=Lib.hid (by rw [hR1,hq0];rfl)
           clear hR1 hq0 ht e2 hr hk1 hk3
           go_enter Tryz.func227,Tryz.ntmps227
           go_wp2_with (first
            |(go_at_call 96;refine (next_as _ _ _ _ _ _ _ _ _ _ _ (H.out.below HB0.out) HTK).mono ?_;rintro e x0 ⟨rfl,hb⟩;have hba:=bl_alloc (o:= .cells #[.int .i64 2,.int .i64 n,.string S,.int .i64 at_] 155) hb;have HP0:=Lib.hid ((H.out.below HB0.out).below hba);have HK0:=Lib.hid ((Keep.of_below (B:=p) HB0.out).trans (.of_below hba));have HZ0:=Lib.hid (HZ.out.below hba);have HT0:=Lib.hid (Bx.new x0 #[.int .i64 2,.int .i64 n,.string S,.int .i64 at_] 155);have hbx:=Nat.lt_of_lt_of_le HZ.out.lt hb.size;have hto:=Lib.hid (show p<x0.heap.size∧w.heap.size<x0.heap.size from ⟨by omega,by omega⟩);clear hb hba hbx)
            |(go_at_call 204;(with_reducible refine (is_as _ _ _ _ _ _ _ _ _ HP0.out HM1).mono ?_);rintro e x1 ⟨rfl,hb⟩;have HP1:=Lib.hid (HP0.out.below hb);have HK1:=Lib.hid (HK0.out.trans (.of_below hb));have HZ1:=Lib.hid (HZ0.out.below hb);have HT1:=Lib.hid (HT0.out.below hb);clear hb)
            |(go_at_call 164;(with_reducible refine (may_as _ _ _ _ _ _ _ _ _ _ HP1.out HM2).mono ?_);rintro e x2 hq;obtain ⟨v,a2,cp2,rfl,hv,hPm,hKm⟩:=hq.yes;obtain rfl:=hv;have HP2:=Lib.hid hPm;have HK2:=Lib.hid (HK1.out.trans hKm);have HZ2:=Lib.hid (HZ1.out.keep hKm (by omega));have HT2:=Lib.hid (HT1.out.keep hKm (by have:=hto.out;omega));clear hPm hKm hq)
            |(go_at_call 164;(with_reducible refine (may_as _ _ _ _ _ _ _ _ _ _ HP2.out HM3).mono ?_);rintro e x3 hq;obtain ⟨v,a3,cp3,rfl,hv,hPm,hKm⟩:=hq.yes;obtain rfl:=hv;have HP3:=Lib.hid hPm;have HK3:=Lib.hid (HK2.out.trans hKm);have HZ3:=Lib.hid (HZ2.out.keep hKm (by omega));have HT3:=Lib.hid (HT2.out.keep hKm (by have:=hto.out;omega));clear hPm hKm hq)
            |(go_at_call 204;(with_reducible refine (is_as _ _ _ _ _ _ _ _ _ HP3.out HM4).mono ?_);rintro e x4 ⟨rfl,hb⟩;have HP4:=Lib.hid (HP3.out.below hb);have HK4:=Lib.hid (HK3.out.trans (.of_below hb));have HZ4:=Lib.hid (HZ3.out.below hb);have HT4:=Lib.hid (HT3.out.below hb);clear hb)
            |(go_at_call 204;(with_reducible refine (is_as _ _ _ _ _ _ _ _ _ HP4.out HM5).mono ?_);rintro e x5 ⟨rfl,hb⟩;have HP5:=Lib.hid (HP4.out.below hb);have HK5:=Lib.hid (HK4.out.trans (.of_below hb));have HZ5:=Lib.hid (HZ4.out.below hb);have HT5:=Lib.hid (HT4.out.below hb);have htb:=HT5.out;have k0:=htb.cell 0 rfl;have k2:=htb.cell 2 rfl;clear htb;clear hb)
            |(go_at_call 91;refine (Nm.right_as _ _ _ HP5.out.env hsz HRT).mono ?_;rintro e x6 ⟨rfl,hb⟩;have HP6:=Lib.hid (HP5.out.below hb);have HK6:=Lib.hid (HK5.out.trans (.of_below hb));have HZ6:=Lib.hid (HZ5.out.below hb);have HT6:=Lib.hid (HT5.out.below hb);clear k0 k2;have htb:=HT6.out;have k0:=htb.cell 0 rfl;have k2:=htb.cell 2 rfl;clear htb;clear hb)
            |(go_at_call 232;refine (path_as _ _ _ _ _ _ _ _ HP6.out HPA).mono ?_;rintro e x9 hq;obtain ⟨rfl,hKm⟩:=hq.no;have HK9:=Lib.hid (HK6.out.trans hKm);clear hq hKm))
           exact ⟨rfl,.mkN HR.out HK9.out⟩
          |ok xs M=>
           have HPA:=Lib.hid hq0
           have HR:Hid (R= .ok (.mk 9 0 ⟨#[]⟩ xs [] false []) M):=Lib.hid (by rw [hR1,hq0];rfl)
           clear hR1 hq0 ht e2 hr hk1 hk3
           go_enter Tryz.func227,Tryz.ntmps227
           go_wp2_with (first
            |(go_at_call 96;refine (next_as _ _ _ _ _ _ _ _ _ _ _ (H.out.below HB0.out) HTK).mono ?_;rintro e x0 ⟨rfl,hb⟩;have hba:=bl_alloc (o:= .cells #[.int .i64 2,.int .i64 n,.string S,.int .i64 at_] 155) hb;have HP0:=Lib.hid ((H.out.below HB0.out).below hba);have HK0:=Lib.hid ((Keep.of_below (B:=p) HB0.out).trans (.of_below hba));have HZ0:=Lib.hid (HZ.out.below hba);have HT0:=Lib.hid (Bx.new x0 #[.int .i64 2,.int .i64 n,.string S,.int .i64 at_] 155);have hbx:=Nat.lt_of_lt_of_le HZ.out.lt hb.size;have hto:=Lib.hid (show p<x0.heap.size∧w.heap.size<x0.heap.size from ⟨by omega,by omega⟩);clear hb hba hbx)
            |(go_at_call 204;(with_reducible refine (is_as _ _ _ _ _ _ _ _ _ HP0.out HM1).mono ?_);rintro e x1 ⟨rfl,hb⟩;have HP1:=Lib.hid (HP0.out.below hb);have HK1:=Lib.hid (HK0.out.trans (.of_below hb));have HZ1:=Lib.hid (HZ0.out.below hb);have HT1:=Lib.hid (HT0.out.below hb);clear hb)
            |(go_at_call 164;(with_reducible refine (may_as _ _ _ _ _ _ _ _ _ _ HP1.out HM2).mono ?_);rintro e x2 hq;obtain ⟨v,a2,cp2,rfl,hv,hPm,hKm⟩:=hq.yes;obtain rfl:=hv;have HP2:=Lib.hid hPm;have HK2:=Lib.hid (HK1.out.trans hKm);have HZ2:=Lib.hid (HZ1.out.keep hKm (by omega));have HT2:=Lib.hid (HT1.out.keep hKm (by have:=hto.out;omega));clear hPm hKm hq)
            |(go_at_call 164;(with_reducible refine (may_as _ _ _ _ _ _ _ _ _ _ HP2.out HM3).mono ?_);rintro e x3 hq;obtain ⟨v,a3,cp3,rfl,hv,hPm,hKm⟩:=hq.yes;obtain rfl:=hv;have HP3:=Lib.hid hPm;have HK3:=Lib.hid (HK2.out.trans hKm);have HZ3:=Lib.hid (HZ2.out.keep hKm (by omega));have HT3:=Lib.hid (HT2.out.keep hKm (by have:=hto.out;omega));clear hPm hKm hq)
            |(go_at_call 204;(with_reducible refine (is_as _ _ _ _ _ _ _ _ _ HP3.out HM4).mono ?_);rintro e x4 ⟨rfl,hb⟩;have HP4:=Lib.hid (HP3.out.below hb);have HK4:=Lib.hid (HK3.out.trans (.of_below hb));have HZ4:=Lib.hid (HZ3.out.below hb);have HT4:=Lib.hid (HT3.out.below hb);clear hb)
            |(go_at_call 204;(with_reducible refine (is_as _ _ _ _ _ _ _ _ _ HP4.out HM5).mono ?_);rintro e x5 ⟨rfl,hb⟩;have HP5:=Lib.hid (HP4.out.below hb);have HK5:=Lib.hid (HK4.out.trans (.of_below hb));have HZ5:=Lib.hid (HZ4.out.below hb);have HT5:=Lib.hid (HT4.out.below hb);have htb:=HT5.out;have k0:=htb.cell 0 rfl;have k2:=htb.cell 2 rfl;clear htb;clear hb)
            |(go_at_call 91;refine (Nm.right_as _ _ _ HP5.out.env hsz HRT).mono ?_;rintro e x6 ⟨rfl,hb⟩;have HP6:=Lib.hid (HP5.out.below hb);have HK6:=Lib.hid (HK5.out.trans (.of_below hb));have HZ6:=Lib.hid (HZ5.out.below hb);have HT6:=Lib.hid (HT5.out.below hb);clear k0 k2;have htb:=HT6.out;have k0:=htb.cell 0 rfl;have k2:=htb.cell 2 rfl;clear htb;clear hb)
            |(go_at_call 232;refine (path_as _ _ _ _ _ _ _ _ HP6.out HPA).mono ?_;rintro e x9 hq;obtain ⟨v,a9,cp9,rfl,hv,hPm,hKm⟩:=hq.yes;obtain ⟨pa,pn,pc,rfl,hps,hpb⟩:=hv;have HPS:=Lib.hid (And.intro hps hpb);have hz6:=HZ6.out.lt;clear hps hpb;have HP9:=Lib.hid hPm;have HK9:=Lib.hid (HK6.out.trans hKm);have HZ9:=Lib.hid (HZ6.out.keep hKm (by omega));have HT9:=Lib.hid (HT6.out.keep hKm (by have:=hto.out;omega));have hzb:=HZ9.out;have m0:=hzb.cell 0 rfl;have m1:=hzb.cell 1 rfl;have m2:=hzb.cell 2 rfl;have m3:=hzb.cell 3 rfl;have m4:=hzb.cell 4 rfl;have m5:=hzb.cell 5 rfl;have m6:=hzb.cell 6 rfl;have mf:=hzb.fz;clear hzb;clear hPm hKm hq))
           refine bodyPost_ret (v:= .agg #[.int .i64 9,.int .i64 0,.string ⟨#[]⟩,.slice pa pn pc,.slice none 0 0,.bool false,.slice none 0 0]) (by simp [results,Tryz.results227,go_sem,m0,m1,m2,m3,m4,m5,m6]) rfl ?_
           exact put_end (x:=x9) ⟨9,0,⟨#[]⟩,pa,pn,pc,none,0,0,false,none,0,0⟩ HR.out (XB.leaf 9 0 _ (by decide) HPS.out.1 (fun h0 b off e=>by have:=HPS.out.2 h0 b off e;omega)) HP9.out HK9.out hpl
         |false=>
          have HRT:=Lib.hid hr
          rw [hr,if_neg (by decide),List.tail_cons] at hR1
          have e3:t=⟨⟨2,n,S.toList⟩,at_⟩:=e2.symm.trans ht
          rw [←e3] at hR1
          clear ht e2 e3 hr hk1 hk3
          cases hq0:wordM t T with
          |bad x y=>
           have HWM:=Lib.hid hq0
           have HR:Hid (R= .bad x y):=Lib.hid (by rw [hR1,hq0])
           clear hR1 hq0
           go_enter Tryz.func227,Tryz.ntmps227
           go_wp2_with (first
            |(go_at_call 96;refine (next_as _ _ _ _ _ _ _ _ _ _ _ (H.out.below HB0.out) HTK).mono ?_;rintro e x0 ⟨rfl,hb⟩;have hba:=bl_alloc (o:= .cells #[.int .i64 2,.int .i64 n,.string S,.int .i64 at_] 155) hb;have HP0:=Lib.hid ((H.out.below HB0.out).below hba);have HK0:=Lib.hid ((Keep.of_below (B:=p) HB0.out).trans (.of_below hba));have HZ0:=Lib.hid (HZ.out.below hba);have HT0:=Lib.hid (Bx.new x0 #[.int .i64 2,.int .i64 n,.string S,.int .i64 at_] 155);have hbx:=Nat.lt_of_lt_of_le HZ.out.lt hb.size;have hto:=Lib.hid (show p<x0.heap.size∧w.heap.size<x0.heap.size from ⟨by omega,by omega⟩);clear hb hba hbx)
            |(go_at_call 204;(with_reducible refine (is_as _ _ _ _ _ _ _ _ _ HP0.out HM1).mono ?_);rintro e x1 ⟨rfl,hb⟩;have HP1:=Lib.hid (HP0.out.below hb);have HK1:=Lib.hid (HK0.out.trans (.of_below hb));have HZ1:=Lib.hid (HZ0.out.below hb);have HT1:=Lib.hid (HT0.out.below hb);clear hb)
            |(go_at_call 164;(with_reducible refine (may_as _ _ _ _ _ _ _ _ _ _ HP1.out HM2).mono ?_);rintro e x2 hq;obtain ⟨v,a2,cp2,rfl,hv,hPm,hKm⟩:=hq.yes;obtain rfl:=hv;have HP2:=Lib.hid hPm;have HK2:=Lib.hid (HK1.out.trans hKm);have HZ2:=Lib.hid (HZ1.out.keep hKm (by omega));have HT2:=Lib.hid (HT1.out.keep hKm (by have:=hto.out;omega));clear hPm hKm hq)
            |(go_at_call 164;(with_reducible refine (may_as _ _ _ _ _ _ _ _ _ _ HP2.out HM3).mono ?_);rintro e x3 hq;obtain ⟨v,a3,cp3,rfl,hv,hPm,hKm⟩:=hq.yes;obtain rfl:=hv;have HP3:=Lib.hid hPm;have HK3:=Lib.hid (HK2.out.trans hKm);have HZ3:=Lib.hid (HZ2.out.keep hKm (by omega));have HT3:=Lib.hid (HT2.out.keep hKm (by have:=hto.out;omega));clear hPm hKm hq)
            |(go_at_call 204;(with_reducible refine (is_as _ _ _ _ _ _ _ _ _ HP3.out HM4).mono ?_);rintro e x4 ⟨rfl,hb⟩;have HP4:=Lib.hid (HP3.out.below hb);have HK4:=Lib.hid (HK3.out.trans (.of_below hb));have HZ4:=Lib.hid (HZ3.out.below hb);have HT4:=Lib.hid (HT3.out.below hb);clear hb)
            |(go_at_call 204;(with_reducible refine (is_as _ _ _ _ _ _ _ _ _ HP4.out HM5).mono ?_);rintro e x5 ⟨rfl,hb⟩;have HP5:=Lib.hid (HP4.out.below hb);have HK5:=Lib.hid (HK4.out.trans (.of_below hb));have HZ5:=Lib.hid (HZ4.out.below hb);have HT5:=Lib.hid (HT4.out.below hb);have htb:=HT5.out;have k0:=htb.cell 0 rfl;have k2:=htb.cell 2 rfl;clear htb;clear hb)
            |(go_at_call 91;refine (Nm.right_as _ _ _ HP5.out.env hsz HRT).mono ?_;rintro e x6 ⟨rfl,hb⟩;have HP6:=Lib.hid (HP5.out.below hb);have HK6:=Lib.hid (HK5.out.trans (.of_below hb));have HZ6:=Lib.hid (HZ5.out.below hb);have HT6:=Lib.hid (HT5.out.below hb);clear k0 k2;have htb:=HT6.out;have k0:=htb.cell 0 rfl;have k2:=htb.cell 2 rfl;clear htb;clear hb)
            |(go_at_call 233;refine (word_as _ _ _ _ _ _ _ _ _ HP6.out HWM).mono ?_;rintro e x9 hq;obtain ⟨rfl,hKm⟩:=hq.no;have HK9:=Lib.hid (HK6.out.trans hKm);clear hq hKm))
           exact ⟨rfl,.mkN HR.out HK9.out⟩
          |ok x M=>
           have HWM:=Lib.hid hq0
           have HR:Hid (R= .ok x M):=Lib.hid (by rw [hR1,hq0])
           clear hR1 hq0
           go_enter Tryz.func227,Tryz.ntmps227
           go_wp2_with (first
            |(go_at_call 96;refine (next_as _ _ _ _ _ _ _ _ _ _ _ (H.out.below HB0.out) HTK).mono ?_;rintro e x0 ⟨rfl,hb⟩;have hba:=bl_alloc (o:= .cells #[.int .i64 2,.int .i64 n,.string S,.int .i64 at_] 155) hb;have HP0:=Lib.hid ((H.out.below HB0.out).below hba);have HK0:=Lib.hid ((Keep.of_below (B:=p) HB0.out).trans (.of_below hba));have HZ0:=Lib.hid (HZ.out.below hba);have HT0:=Lib.hid (Bx.new x0 #[.int .i64 2,.int .i64 n,.string S,.int .i64 at_] 155);have hbx:=Nat.lt_of_lt_of_le HZ.out.lt hb.size;have hto:=Lib.hid (show p<x0.heap.size∧w.heap.size<x0.heap.size from ⟨by omega,by omega⟩);clear hb hba hbx)
            |(go_at_call 204;(with_reducible refine (is_as _ _ _ _ _ _ _ _ _ HP0.out HM1).mono ?_);rintro e x1 ⟨rfl,hb⟩;have HP1:=Lib.hid (HP0.out.below hb);have HK1:=Lib.hid (HK0.out.trans (.of_below hb));have HZ1:=Lib.hid (HZ0.out.below hb);have HT1:=Lib.hid (HT0.out.below hb);clear hb)
            |(go_at_call 164;(with_reducible refine (may_as _ _ _ _ _ _ _ _ _ _ HP1.out HM2).mono ?_);rintro e x2 hq;obtain ⟨v,a2,cp2,rfl,hv,hPm,hKm⟩:=hq.yes;obtain rfl:=hv;have HP2:=Lib.hid hPm;have HK2:=Lib.hid (HK1.out.trans hKm);have HZ2:=Lib.hid (HZ1.out.keep hKm (by omega));have HT2:=Lib.hid (HT1.out.keep hKm (by have:=hto.out;omega));clear hPm hKm hq)
            |(go_at_call 164;(with_reducible refine (may_as _ _ _ _ _ _ _ _ _ _ HP2.out HM3).mono ?_);rintro e x3 hq;obtain ⟨v,a3,cp3,rfl,hv,hPm,hKm⟩:=hq.yes;obtain rfl:=hv;have HP3:=Lib.hid hPm;have HK3:=Lib.hid (HK2.out.trans hKm);have HZ3:=Lib.hid (HZ2.out.keep hKm (by omega));have HT3:=Lib.hid (HT2.out.keep hKm (by have:=hto.out;omega));clear hPm hKm hq)
            |(go_at_call 204;(with_reducible refine (is_as _ _ _ _ _ _ _ _ _ HP3.out HM4).mono ?_);rintro e x4 ⟨rfl,hb⟩;have HP4:=Lib.hid (HP3.out.below hb);have HK4:=Lib.hid (HK3.out.trans (.of_below hb));have HZ4:=Lib.hid (HZ3.out.below hb);have HT4:=Lib.hid (HT3.out.below hb);clear hb)
            |(go_at_call 204;(with_reducible refine (is_as _ _ _ _ _ _ _ _ _ HP4.out HM5).mono ?_);rintro e x5 ⟨rfl,hb⟩;have HP5:=Lib.hid (HP4.out.below hb);have HK5:=Lib.hid (HK4.out.trans (.of_below hb));have HZ5:=Lib.hid (HZ4.out.below hb);have HT5:=Lib.hid (HT4.out.below hb);have htb:=HT5.out;have k0:=htb.cell 0 rfl;have k2:=htb.cell 2 rfl;clear htb;clear hb)
            |(go_at_call 91;refine (Nm.right_as _ _ _ HP5.out.env hsz HRT).mono ?_;rintro e x6 ⟨rfl,hb⟩;have HP6:=Lib.hid (HP5.out.below hb);have HK6:=Lib.hid (HK5.out.trans (.of_below hb));have HZ6:=Lib.hid (HZ5.out.below hb);have HT6:=Lib.hid (HT5.out.below hb);clear k0 k2;have htb:=HT6.out;have k0:=htb.cell 0 rfl;have k2:=htb.cell 2 rfl;clear htb;clear hb)
            |(go_at_call 233;refine (word_as _ _ _ _ _ _ _ _ _ HP6.out HWM).mono ?_;rintro e x9 hq;obtain ⟨v,a9,cp9,rfl,hv,hPm,hKm⟩:=hq.yes;obtain ⟨op2,nn2,s2,p2,pl2,pc2,q2,ql2,qc2,o2,k2,kl2,kc2,rfl,hX⟩:=VX.hd hv;have HX9:=Lib.hid hX;clear hX;have HXZ:=Lib.hid (HX9.out.less (Q:=fun b=>w.heap.size+1≤b) (fun b lt hb=>by have h1:=HZ6.out.lt;have hb2:_≤b:=hb;omega));have HP9:=Lib.hid hPm;have HK9:=Lib.hid (HK6.out.trans hKm);have HZ9:=Lib.hid (HZ6.out.keep hKm (by omega));have HT9:=Lib.hid (HT6.out.keep hKm (by have:=hto.out;omega));have hzb:=HZ9.out;have m0:=hzb.cell 0 rfl;have m1:=hzb.cell 1 rfl;have m2:=hzb.cell 2 rfl;have m3:=hzb.cell 3 rfl;have m4:=hzb.cell 4 rfl;have m5:=hzb.cell 5 rfl;have m6:=hzb.cell 6 rfl;have mf:=hzb.fz;clear hzb;clear hPm hKm hq))
           refine bodyPost_ret (v:= .agg #[.int .i64 op2,.int .i64 nn2,.string s2,.slice p2 pl2 pc2,.slice q2 ql2 qc2,.bool o2,.slice k2 kl2 kc2]) (by simp [results,Tryz.results227,go_sem,m0,m1,m2,m3,m4,m5,m6]) rfl ?_
           exact put_end (x:=x9) ⟨op2,nn2,s2,p2,pl2,pc2,q2,ql2,qc2,o2,k2,kl2,kc2⟩ HR.out (HXZ.out) HP9.out HK9.out hpl
        ·rw [if_neg hk2] at hR1
         have hn2:(k==2)=false:=by simpa using hk2
         have HR:Hid (R= .bad at_ 21):=Lib.hid hR1
         have HX:Hid ((pk E L).at_=at_):=Lib.hid (by rw [ht])
         clear hR1 ht hk1 hk2 hk3
         go_enter Tryz.func227,Tryz.ntmps227
         go_wp2_with (first
          |(go_at_call 96;refine (next_as _ _ _ _ _ _ _ _ _ _ _ (H.out.below HB0.out) HTK).mono ?_;rintro e x0 ⟨rfl,hb⟩;have hba:=bl_alloc (o:= .cells #[.int .i64 k,.int .i64 n,.string S,.int .i64 at_] 155) hb;have HP0:=Lib.hid ((H.out.below HB0.out).below hba);have HK0:=Lib.hid ((Keep.of_below (B:=p) HB0.out).trans (.of_below hba));have HZ0:=Lib.hid (HZ.out.below hba);have HT0:=Lib.hid (Bx.new x0 #[.int .i64 k,.int .i64 n,.string S,.int .i64 at_] 155);have hbx:=Nat.lt_of_lt_of_le HZ.out.lt hb.size;have hto:=Lib.hid (show p<x0.heap.size∧w.heap.size<x0.heap.size from ⟨by omega,by omega⟩);clear hb hba hbx)
          |(go_at_call 204;(with_reducible refine (is_as _ _ _ _ _ _ _ _ _ HP0.out HM1).mono ?_);rintro e x1 ⟨rfl,hb⟩;have HP1:=Lib.hid (HP0.out.below hb);have HK1:=Lib.hid (HK0.out.trans (.of_below hb));have HZ1:=Lib.hid (HZ0.out.below hb);have HT1:=Lib.hid (HT0.out.below hb);clear hb)
          |(go_at_call 164;(with_reducible refine (may_as _ _ _ _ _ _ _ _ _ _ HP1.out HM2).mono ?_);rintro e x2 hq;obtain ⟨v,a2,cp2,rfl,hv,hPm,hKm⟩:=hq.yes;obtain rfl:=hv;have HP2:=Lib.hid hPm;have HK2:=Lib.hid (HK1.out.trans hKm);have HZ2:=Lib.hid (HZ1.out.keep hKm (by omega));have HT2:=Lib.hid (HT1.out.keep hKm (by have:=hto.out;omega));clear hPm hKm hq)
          |(go_at_call 164;(with_reducible refine (may_as _ _ _ _ _ _ _ _ _ _ HP2.out HM3).mono ?_);rintro e x3 hq;obtain ⟨v,a3,cp3,rfl,hv,hPm,hKm⟩:=hq.yes;obtain rfl:=hv;have HP3:=Lib.hid hPm;have HK3:=Lib.hid (HK2.out.trans hKm);have HZ3:=Lib.hid (HZ2.out.keep hKm (by omega));have HT3:=Lib.hid (HT2.out.keep hKm (by have:=hto.out;omega));clear hPm hKm hq)
          |(go_at_call 204;(with_reducible refine (is_as _ _ _ _ _ _ _ _ _ HP3.out HM4).mono ?_);rintro e x4 ⟨rfl,hb⟩;have HP4:=Lib.hid (HP3.out.below hb);have HK4:=Lib.hid (HK3.out.trans (.of_below hb));have HZ4:=Lib.hid (HZ3.out.below hb);have HT4:=Lib.hid (HT3.out.below hb);clear hb)
          |(go_at_call 204;(with_reducible refine (is_as _ _ _ _ _ _ _ _ _ HP4.out HM5).mono ?_);rintro e x5 ⟨rfl,hb⟩;have HP5:=Lib.hid (HP4.out.below hb);have HK5:=Lib.hid (HK4.out.trans (.of_below hb));have HZ5:=Lib.hid (HZ4.out.below hb);have HT5:=Lib.hid (HT4.out.below hb);have htb:=HT5.out;have k0:=htb.cell 0 rfl;have k2:=htb.cell 2 rfl;clear htb;clear hb)
          |(go_at_call 97;refine (fault_as _ _ _ _ _ _ _ _ _ HP5.out HX).mono ?_;rintro e x9 ⟨rfl,hb⟩;have HK9:=Lib.hid (HK5.out.trans (.of_below hb));clear hb))
         exact ⟨rfl,.mkN HR.out HK9.out⟩
end Go.Proofs.YtkfihhagcimcmaaGreatDoor.Ps
namespace Go.Proofs.YtkfihhagcimcmaaGreatDoor.Ps
open Go.RowKit
open Lx (Tok bl_alloc)
set_option maxRecDepth 100000 in
set_option maxHeartbeats 4000000 in
theorem join_any (part:List Tok→Res Ex) (w:World) (p cap:Nat) (a:Option Addr) (L:List Tok) (E o:Int) (h:Prs w p a cap L E o) (hfit:∀L,Fits cnt L (part L))
  (ask:∀(W:World) (a:Option Addr) (cap:Nat) (M:List Tok),M.length≤L.length→Prs W p a cap M E o→Calls Tryz.prog 171 #[.pointer (some ⟨p,0,none⟩)] W (PostR (VX W.heap.size) W p E o (part M))):
  Calls Tryz.prog 145 #[.pointer (some ⟨p,0,none⟩)] w (PostR (VX w.heap.size) w p E o (kidsM part E 12 [124] L)):=by
 have H:=Lib.hid h
 have HASK:=Lib.hid ask
 have HFIT:=Lib.hid hfit
 have hpl:=h.lt
 have HB0:=Lib.hid (bl_alloc (o:= .cells #[.int .i64 0,.int .i64 0,.string ⟨#[]⟩,.slice none 0 0,.slice none 0 0,.bool false,.slice none 0 0] 35) (Below.refl w.heap.size w))
 have HZ0:=Lib.hid (Bx.new w #[.int .i64 0,.int .i64 0,.string ⟨#[]⟩,.slice none 0 0,.slice none 0 0,.bool false,.slice none 0 0] 35)
 clear h ask hfit
 cases hq0:kidsM part E 12 [124] L with
 |bad x y=>
  have HPT:=Lib.hid hq0
  clear hq0
  go_enter Tryz.func145,Tryz.ntmps145
  go_wp2_with (go_at_call 170;refine (kids_join part _ p cap a L E o (H.out.below HB0.out) HFIT.out HASK.out).mono ?_;rintro e x9 hq;rw [HPT.out] at hq;obtain ⟨rfl,hKm⟩:=hq.no;have HK9:=Lib.hid ((Keep.of_below HB0.out).trans hKm);clear hq hKm)
  exact ⟨rfl,.mkN rfl HK9.out⟩
 |ok x M=>
  have HPT:=Lib.hid hq0
  clear hq0
  go_enter Tryz.func145,Tryz.ntmps145
  go_wp2_with (go_at_call 170;refine (kids_join part _ p cap a L E o (H.out.below HB0.out) HFIT.out HASK.out).mono ?_;rintro e x9 hq;rw [HPT.out] at hq;obtain ⟨v,a9,cp9,rfl,hv,hPm,hKm⟩:=hq.yes;obtain ⟨op2,nn2,s2,p2,pl2,pc2,q2,ql2,qc2,o2,k2,kl2,kc2,rfl,hX⟩:=VX.hd hv;have HXZ:=Lib.hid (hX.less (Q:=fun b=>w.heap.size+1≤b) (fun b lt hb=>by have h1:=HZ0.out.lt;have hb2:_≤b:=hb;omega));have HP9:=Lib.hid hPm;have HZ9:=Lib.hid (HZ0.out.keep hKm (by omega));have HK9:=Lib.hid ((Keep.of_below HB0.out).trans hKm);have hzb:=HZ9.out;have m0:=hzb.cell 0 rfl;have m1:=hzb.cell 1 rfl;have m2:=hzb.cell 2 rfl;have m3:=hzb.cell 3 rfl;have m4:=hzb.cell 4 rfl;have m5:=hzb.cell 5 rfl;have m6:=hzb.cell 6 rfl;have mf:=hzb.fz;clear hzb hX hv hPm hKm hq)
  refine bodyPost_ret (v:= .agg #[.int .i64 op2,.int .i64 nn2,.string s2,.slice p2 pl2 pc2,.slice q2 ql2 qc2,.bool o2,.slice k2 kl2 kc2]) (by simp [results,Tryz.results145,go_sem,m0,m1,m2,m3,m4,m5,m6]) rfl ?_
  exact put_end (x:=x9) ⟨op2,nn2,s2,p2,pl2,pc2,q2,ql2,qc2,o2,k2,kl2,kc2⟩ rfl HXZ.out HP9.out HK9.out hpl
set_option maxRecDepth 100000 in
set_option maxHeartbeats 4000000 in
theorem meet_any (part:List Tok→Res Ex) (w:World) (p cap:Nat) (a:Option Addr) (L:List Tok) (E o:Int) (h:Prs w p a cap L E o) (hfit:∀L,Fits cnt L (part L))
  (ask:∀(W:World) (a:Option Addr) (cap:Nat) (M:List Tok),M.length≤L.length→Prs W p a cap M E o→Calls Tryz.prog 207 #[.pointer (some ⟨p,0,none⟩)] W (PostR (VX W.heap.size) W p E o (part M))):
  Calls Tryz.prog 171 #[.pointer (some ⟨p,0,none⟩)] w (PostR (VX w.heap.size) w p E o (kidsM part E 11 [38] L)):=by
 have H:=Lib.hid h
 have HASK:=Lib.hid ask
 have HFIT:=Lib.hid hfit
 have hpl:=h.lt
 have HB0:=Lib.hid (bl_alloc (o:= .cells #[.int .i64 0,.int .i64 0,.string ⟨#[]⟩,.slice none 0 0,.slice none 0 0,.bool false,.slice none 0 0] 35) (Below.refl w.heap.size w))
 have HZ0:=Lib.hid (Bx.new w #[.int .i64 0,.int .i64 0,.string ⟨#[]⟩,.slice none 0 0,.slice none 0 0,.bool false,.slice none 0 0] 35)
 clear h ask hfit
 cases hq0:kidsM part E 11 [38] L with
 |bad x y=>
  have HPT:=Lib.hid hq0
  clear hq0
  go_enter Tryz.func171,Tryz.ntmps171
  go_wp2_with (go_at_call 170;refine (kids_meet part _ p cap a L E o (H.out.below HB0.out) HFIT.out HASK.out).mono ?_;rintro e x9 hq;rw [HPT.out] at hq;obtain ⟨rfl,hKm⟩:=hq.no;have HK9:=Lib.hid ((Keep.of_below HB0.out).trans hKm);clear hq hKm)
  exact ⟨rfl,.mkN rfl HK9.out⟩
 |ok x M=>
  have HPT:=Lib.hid hq0
  clear hq0
  go_enter Tryz.func171,Tryz.ntmps171
  go_wp2_with (go_at_call 170;refine (kids_meet part _ p cap a L E o (H.out.below HB0.out) HFIT.out HASK.out).mono ?_;rintro e x9 hq;rw [HPT.out] at hq;obtain ⟨v,a9,cp9,rfl,hv,hPm,hKm⟩:=hq.yes;obtain ⟨op2,nn2,s2,p2,pl2,pc2,q2,ql2,qc2,o2,k2,kl2,kc2,rfl,hX⟩:=VX.hd hv;have HXZ:=Lib.hid (hX.less (Q:=fun b=>w.heap.size+1≤b) (fun b lt hb=>by have h1:=HZ0.out.lt;have hb2:_≤b:=hb;omega));have HP9:=Lib.hid hPm;have HZ9:=Lib.hid (HZ0.out.keep hKm (by omega));have HK9:=Lib.hid ((Keep.of_below HB0.out).trans hKm);have hzb:=HZ9.out;have m0:=hzb.cell 0 rfl;have m1:=hzb.cell 1 rfl;have m2:=hzb.cell 2 rfl;have m3:=hzb.cell 3 rfl;have m4:=hzb.cell 4 rfl;have m5:=hzb.cell 5 rfl;have m6:=hzb.cell 6 rfl;have mf:=hzb.fz;clear hzb hX hv hPm hKm hq)
  refine bodyPost_ret (v:= .agg #[.int .i64 op2,.int .i64 nn2,.string s2,.slice p2 pl2 pc2,.slice q2 ql2 qc2,.bool o2,.slice k2 kl2 kc2]) (by simp [results,Tryz.results171,go_sem,m0,m1,m2,m3,m4,m5,m6]) rfl ?_
  exact put_end (x:=x9) ⟨op2,nn2,s2,p2,pl2,pc2,q2,ql2,qc2,o2,k2,kl2,kc2⟩ rfl HXZ.out HP9.out HK9.out hpl
def fnum (n:Nat):Nat:=if n=1 then 145 else if n=2 then 171 else if n=3 then 207 else if n=4 then 221 else 227
theorem lv_any (E:Int):∀(f n:Nat) (o:Int) (L:List Tok) (W:World) (p cap:Nat) (a:Option Addr),1≤n→n≤5→0≤o→o≤16→6*L.length+(5-n)<f→Prs W p a cap L E o→
  Calls Tryz.prog (fnum n) #[.pointer (some ⟨p,0,none⟩)] W (PostR (VX W.heap.size) W p E o (lv E f n o L))
 |0,_,_,_,_,_,_,_,_,_,_,_,h,_=>absurd h (Nat.not_lt_zero _)
 |f+1,n,o,L,W,p,cap,a,h1,h5,ho,ho16,hf,hP=>by
  have n5:n=1∨n=2∨n=3∨n=4∨n=5:=by omega
  rcases n5 with rfl|rfl|rfl|rfl|rfl
  ·exact join_any (lv E f 2 o) W p cap a L E o hP (fun L=>lv_fits E f 2 o L) fun W' a' cap' M hM hP'=>lv_any E f 2 o M W' p cap' a' (by omega) (by omega) ho ho16 (by omega) hP'
  ·exact meet_any (lv E f 3 o) W p cap a L E o hP (fun L=>lv_fits E f 3 o L) fun W' a' cap' M hM hP'=>lv_any E f 3 o M W' p cap' a' (by omega) (by omega) ho ho16 (by omega) hP'
  ·exact sum_any (lv E f 4 o) W p cap a L E o hP (fun L=>lv_fits E f 4 o L) fun W' a' cap' M hM hP'=>lv_any E f 4 o M W' p cap' a' (by omega) (by omega) ho ho16 (by omega) hP'
  ·exact prod_any (lv E f 5 o) W p cap a L E o hP (fun L=>lv_fits E f 5 o L) fun W' a' cap' M hM hP'=>lv_any E f 5 o M W' p cap' a' (by omega) (by omega) ho ho16 (by omega) hP'
  ·exact unit_any (fun o L=>lv E f 1 o L) W p cap a L E o hP ⟨ho,ho16⟩ (fun o L=>lv_fits E f 1 o L) fun W' a' cap' M o' ho1 ho2 hM hP'=>lv_any E f 1 o' M W' p cap' a' (by omega) (by omega) ho1 ho2 (by omega) hP'
theorem join_all (E:Int) (L:List Tok) (W:World) (p cap:Nat) (a:Option Addr) (r:Res Ex) (hP:Prs W p a cap L E 0) (hr:Hid (lv E (6*L.length+6) 1 0 L=r)):Calls Tryz.prog 145 #[.pointer (some ⟨p,0,none⟩)] W (PostR (VX W.heap.size) W p E 0 r):=by
 rw [←hr.out];exact lv_any E (6*L.length+6) 1 0 L W p cap a (by omega) (by omega) (by omega) (by omega) (by omega) hP
theorem deep_as (w:World) (P:Nat→Prop) (h:Hd) (x:Ex) (d:Int) (hx:XB P w h x) (hd:Hid (deep x=d)):Calls Tryz.prog 108 #[h.agg] w (IntP d w):=by
 rw [←hd.out];exact depth_any w (lev x) h x w hx.xw (Below.refl _ _)
set_option maxRecDepth 100000 in
set_option maxHeartbeats 4000000 in
theorem whole_any (w:World) (p cap:Nat) (a:Option Addr) (L:List Tok) (E:Int) (h:Prs w p a cap L E 0):Calls Tryz.prog 101 #[.pointer (some ⟨p,0,none⟩)] w (PostR (VX w.heap.size) w p E 0 (wholeM E L)):=by
 have H:=Lib.hid h
 have hpl:=h.lt
 have HB0:=Lib.hid (bl_alloc (o:= .cells #[.int .i64 0,.int .i64 0,.string ⟨#[]⟩,.slice none 0 0,.slice none 0 0,.bool false,.slice none 0 0] 35) (Below.refl w.heap.size w))
 have HZ0:=Lib.hid (Bx.new w #[.int .i64 0,.int .i64 0,.string ⟨#[]⟩,.slice none 0 0,.slice none 0 0,.bool false,.slice none 0 0] 35)
 obtain ⟨at_,hat⟩:∃x,(pk E L).at_=x:=⟨_,rfl⟩
 have HX:=Lib.hid hat
 unfold wholeM
 rw [hat]
 clear h hat
 cases hq0:lv E (6*L.length+6) 1 0 L with
 |bad x y=>
  have HPT:=Lib.hid hq0
  clear hq0
  go_enter Tryz.func101,Tryz.ntmps101
  go_wp2_with (first
   |(go_at_call 97;refine (fault_as _ _ _ _ _ _ _ _ _ (H.out.below HB0.out) HX).mono ?_;rintro e x1 ⟨rfl,hb⟩;have hba:=bl_alloc (o:= .cells #[.int .i64 at_,.int .i64 22] 151) hb;have HP1:=Lib.hid ((H.out.below HB0.out).below hba);have HK1:=Lib.hid ((Keep.of_below (B:=p) HB0.out).trans (.of_below hba));have HZ1:=Lib.hid (HZ0.out.below hba);have HF1:=Lib.hid (Bx.new x1 #[.int .i64 at_,.int .i64 22] 151);have hbx:=Nat.lt_of_lt_of_le HZ0.out.lt hb.size;have hto:=Lib.hid (show p<x1.heap.size∧w.heap.size<x1.heap.size from ⟨by omega,by omega⟩);clear hb hba hbx)
   |(go_at_call 145;refine (join_all _ _ _ _ _ _ _ HP1.out HPT).mono ?_;rintro e x2 hq;obtain ⟨rfl,hKm⟩:=hq.no;have HK2:=Lib.hid (HK1.out.trans hKm);clear hq hKm))
  exact ⟨rfl,.mkN rfl HK2.out⟩
 |ok x M=>
  have HPT:=Lib.hid hq0
  clear hq0
  obtain ⟨d,hd⟩:∃d,deep x=d:=⟨_,rfl⟩
  have HDP:=Lib.hid hd
  dsimp only [Res.bind]
  rw [hd]
  clear hd
  by_cases h16:16<d
  ·rw [if_pos h16]
   go_enter Tryz.func101,Tryz.ntmps101
   go_wp2_with (first
    |(go_at_call 97;refine (fault_as _ _ _ _ _ _ _ _ _ (H.out.below HB0.out) HX).mono ?_;rintro e x1 ⟨rfl,hb⟩;have hba:=bl_alloc (o:= .cells #[.int .i64 at_,.int .i64 22] 151) hb;have HP1:=Lib.hid ((H.out.below HB0.out).below hba);have HK1:=Lib.hid ((Keep.of_below (B:=p) HB0.out).trans (.of_below hba));have HZ1:=Lib.hid (HZ0.out.below hba);have HF1:=Lib.hid (Bx.new x1 #[.int .i64 at_,.int .i64 22] 151);have hbx:=Nat.lt_of_lt_of_le HZ0.out.lt hb.size;have hto:=Lib.hid (show p<x1.heap.size∧w.heap.size<x1.heap.size from ⟨by omega,by omega⟩);clear hb hba hbx)
    |(go_at_call 145;refine (join_all _ _ _ _ _ _ _ HP1.out HPT).mono ?_;rintro e x2 hq;obtain ⟨v,a2,cp2,rfl,hv,hPm,hKm⟩:=hq.yes;obtain ⟨op2,nn2,s2,p2,pl2,pc2,q2,ql2,qc2,o2,k2,kl2,kc2,rfl,hX⟩:=VX.hd hv;have hba:=bl_alloc (o:= .cells #[.int .i64 op2,.int .i64 nn2,.string s2,.slice p2 pl2 pc2,.slice q2 ql2 qc2,.bool o2,.slice k2 kl2 kc2] 35) (Below.refl x2.heap.size x2);have HX2:=Lib.hid ((hX.less (Q:=fun b=>w.heap.size+1≤b) (fun b lt hb=>by have h1:=HZ1.out.lt;have hb2:_≤b:=hb;omega)).below hba);have HP2:=Lib.hid (hPm.below hba);have HZ2:=Lib.hid ((HZ1.out.keep hKm (by omega)).below hba);have HF2:=Lib.hid ((HF1.out.keep hKm (by have:=hto.out;omega)).below hba);have HY2:=Lib.hid (Bx.new x2 #[.int .i64 op2,.int .i64 nn2,.string s2,.slice p2 pl2 pc2,.slice q2 ql2 qc2,.bool o2,.slice k2 kl2 kc2] 35);have HK2:=Lib.hid ((HK1.out.trans hKm).trans (.of_below hba));have hyb:=HY2.out;have c0:=hyb.cell 0 rfl;have c1:=hyb.cell 1 rfl;have c2:=hyb.cell 2 rfl;have c3:=hyb.cell 3 rfl;have c4:=hyb.cell 4 rfl;have c5:=hyb.cell 5 rfl;have c6:=hyb.cell 6 rfl;clear hyb hX hv hPm hKm hq hba)
    |(go_at_call 108;refine (deep_as _ _ _ _ _ HX2.out HDP).mono ?_;rintro e x3 ⟨rfl,hb⟩;have hfb:=HF2.out.below hb;have f0:=hfb.cell 0 rfl;have f1:=hfb.cell 1 rfl;have HK3:=Lib.hid (HK2.out.trans (.of_below hb));clear hfb;clear hb))
   exact ⟨rfl,.mkN rfl HK3.out⟩
  ·rw [if_neg h16]
   go_enter Tryz.func101,Tryz.ntmps101
   go_wp2_with (first
    |(go_at_call 97;refine (fault_as _ _ _ _ _ _ _ _ _ (H.out.below HB0.out) HX).mono ?_;rintro e x1 ⟨rfl,hb⟩;have hba:=bl_alloc (o:= .cells #[.int .i64 at_,.int .i64 22] 151) hb;have HP1:=Lib.hid ((H.out.below HB0.out).below hba);have HK1:=Lib.hid ((Keep.of_below (B:=p) HB0.out).trans (.of_below hba));have HZ1:=Lib.hid (HZ0.out.below hba);have HF1:=Lib.hid (Bx.new x1 #[.int .i64 at_,.int .i64 22] 151);have hbx:=Nat.lt_of_lt_of_le HZ0.out.lt hb.size;have hto:=Lib.hid (show p<x1.heap.size∧w.heap.size<x1.heap.size from ⟨by omega,by omega⟩);clear hb hba hbx)
    |(go_at_call 145;refine (join_all _ _ _ _ _ _ _ HP1.out HPT).mono ?_;rintro e x2 hq;obtain ⟨v,a2,cp2,rfl,hv,hPm,hKm⟩:=hq.yes;obtain ⟨op2,nn2,s2,p2,pl2,pc2,q2,ql2,qc2,o2,k2,kl2,kc2,rfl,hX⟩:=VX.hd hv;have hba:=bl_alloc (o:= .cells #[.int .i64 op2,.int .i64 nn2,.string s2,.slice p2 pl2 pc2,.slice q2 ql2 qc2,.bool o2,.slice k2 kl2 kc2] 35) (Below.refl x2.heap.size x2);have HX2:=Lib.hid ((hX.less (Q:=fun b=>w.heap.size+1≤b) (fun b lt hb=>by have h1:=HZ1.out.lt;have hb2:_≤b:=hb;omega)).below hba);have HP2:=Lib.hid (hPm.below hba);have HZ2:=Lib.hid ((HZ1.out.keep hKm (by omega)).below hba);have HF2:=Lib.hid ((HF1.out.keep hKm (by have:=hto.out;omega)).below hba);have HY2:=Lib.hid (Bx.new x2 #[.int .i64 op2,.int .i64 nn2,.string s2,.slice p2 pl2 pc2,.slice q2 ql2 qc2,.bool o2,.slice k2 kl2 kc2] 35);have HK2:=Lib.hid ((HK1.out.trans hKm).trans (.of_below hba));have hyb:=HY2.out;have c0:=hyb.cell 0 rfl;have c1:=hyb.cell 1 rfl;have c2:=hyb.cell 2 rfl;have c3:=hyb.cell 3 rfl;have c4:=hyb.cell 4 rfl;have c5:=hyb.cell 5 rfl;have c6:=hyb.cell 6 rfl;clear hyb hX hv hPm hKm hq hba)
    |(go_at_call 108;refine (deep_as _ _ _ _ _ HX2.out HDP).mono ?_;rintro e x3 ⟨rfl,hb⟩;clear c0 c1 c2 c3 c4 c5 c6;have hyb:=HY2.out.below hb;have c0:=hyb.cell 0 rfl;have c1:=hyb.cell 1 rfl;have c2:=hyb.cell 2 rfl;have c3:=hyb.cell 3 rfl;have c4:=hyb.cell 4 rfl;have c5:=hyb.cell 5 rfl;have c6:=hyb.cell 6 rfl;have hzb:=HZ2.out.below hb;have m0:=hzb.cell 0 rfl;have m1:=hzb.cell 1 rfl;have m2:=hzb.cell 2 rfl;have m3:=hzb.cell 3 rfl;have m4:=hzb.cell 4 rfl;have m5:=hzb.cell 5 rfl;have m6:=hzb.cell 6 rfl;have mf:=hzb.fz;have HX3:=Lib.hid (HX2.out.below hb);have HP3:=Lib.hid (HP2.out.below hb);have HK3:=Lib.hid (HK2.out.trans (.of_below hb));clear hyb hzb;clear hb))
   refine bodyPost_ret (v:= .agg #[.int .i64 op2,.int .i64 nn2,.string s2,.slice p2 pl2 pc2,.slice q2 ql2 qc2,.bool o2,.slice k2 kl2 kc2]) (by simp [results,Tryz.results101,go_sem,m0,m1,m2,m3,m4,m5,m6]) rfl ?_
   exact put_end (x:=x3) ⟨op2,nn2,s2,p2,pl2,pc2,q2,ql2,qc2,o2,k2,kl2,kc2⟩ rfl HX3.out HP3.out HK3.out hpl
theorem whole_as (w:World) (p cap:Nat) (a:Option Addr) (L:List Tok) (E:Int) (r:Res Ex) (h:Prs w p a cap L E 0) (hr:Hid (wholeM E L=r)):Calls Tryz.prog 101 #[.pointer (some ⟨p,0,none⟩)] w (PostR (VX w.heap.size) w p E 0 r):=by rw [←hr.out];exact whole_any w p cap a L E h
theorem field_k (k n x:Int) (s:ByteArray) (w:World):(Instr.field 155 (.agg #[.int .i64 k,.int .i64 n,.string s,.int .i64 x]) 0).run Tryz.prog w= .ok (.int .i64 k) w:=by kernel_rfl
theorem pk_end {L:List Tok} (hok:OkL L) (E:Int):(pk E L).x.k=0↔L.length=0:=by
 cases L with
 |nil=>exact ⟨fun _=>rfl,fun _=>rfl⟩
 |cons t M=>exact ⟨fun h=>absurd h (hok t (List.mem_cons_self ..)).k,fun h=>by cases h⟩
set_option maxRecDepth 100000 in
set_option maxHeartbeats 4000000 in
theorem alone_any (w:World) (p cap:Nat) (a:Option Addr) (L:List Tok) (E:Int) (h:Prs w p a cap L E 0):Calls Tryz.prog 61 #[.pointer (some ⟨p,0,none⟩)] w (PostR (VX w.heap.size) w p E 0 (aloneM E L)):=by
 have H:=Lib.hid h
 have hpl:=h.lt
 have hok:=Lib.hid h.ok
 have HB0:=Lib.hid (bl_alloc (o:= .cells #[.int .i64 0,.int .i64 0,.string ⟨#[]⟩,.slice none 0 0,.slice none 0 0,.bool false,.slice none 0 0] 35) (Below.refl w.heap.size w))
 have HZ0:=Lib.hid (Bx.new w #[.int .i64 0,.int .i64 0,.string ⟨#[]⟩,.slice none 0 0,.slice none 0 0,.bool false,.slice none 0 0] 35)
 have HFK:=field_k
 unfold aloneM
 clear h
 cases hq0:wholeM E L with
 |bad x y=>
  have HPT:=Lib.hid hq0
  clear hq0
  go_enter Tryz.func61,Tryz.ntmps61
  go_wp2_with (go_at_call 101;refine (whole_as _ _ _ _ _ _ _ (H.out.below HB0.out) HPT).mono ?_;rintro e x2 hq;obtain ⟨rfl,hKm⟩:=hq.no;have HK2:=Lib.hid ((Keep.of_below HB0.out).trans hKm);clear hq hKm)
  exact ⟨rfl,.mkN rfl HK2.out⟩
 |ok x M=>
  have HPT:=Lib.hid hq0
  have hokM:=hok.out.suf (whole_fits E L _ _ hq0).1
  dsimp only [Res.bind]
  obtain ⟨k,n,at_,S,ht⟩:=pk_get E M
  have HT:=Lib.hid ht
  have HX:Hid ((pk E M).at_=at_):=Lib.hid (by rw [ht])
  rw [show (pk E M).at_=at_ by rw [ht]]
  have hend:=pk_end hokM E
  rw [ht] at hend
  dsimp only at hend
  clear hq0 hokM ht
  by_cases hk:k=0
  ·rw [if_pos (hend.1 hk)]
   subst hk
   clear hend
   go_enter Tryz.func61,Tryz.ntmps61
   go_wp2_with (first
    |(go_at_call 101;refine (whole_as _ _ _ _ _ _ _ (H.out.below HB0.out) HPT).mono ?_;rintro e x2 hq;obtain ⟨v,a2,cp2,rfl,hv,hPm,hKm⟩:=hq.yes;obtain ⟨op2,nn2,s2,p2,pl2,pc2,q2,ql2,qc2,o2,k2,kl2,kc2,rfl,hX⟩:=VX.hd hv;have hba:=bl_alloc (o:= .cells #[.int .i64 op2,.int .i64 nn2,.string s2,.slice p2 pl2 pc2,.slice q2 ql2 qc2,.bool o2,.slice k2 kl2 kc2] 35) (Below.refl x2.heap.size x2);have HX2:=Lib.hid ((hX.less (Q:=fun b=>w.heap.size+1≤b) (fun b lt hb=>by have h1:=HZ0.out.lt;have hb2:_≤b:=hb;omega)).below hba);have HP2:=Lib.hid (hPm.below hba);have HZ2:=Lib.hid ((HZ0.out.keep hKm (by omega)).below hba);have HY2:=Lib.hid (Bx.new x2 #[.int .i64 op2,.int .i64 nn2,.string s2,.slice p2 pl2 pc2,.slice q2 ql2 qc2,.bool o2,.slice k2 kl2 kc2] 35);have HK2:=Lib.hid (((Keep.of_below HB0.out).trans hKm).trans (.of_below hba));clear hX hv hPm hKm hq hba)
    |(go_at_call 96;refine (next_as _ _ _ _ _ _ _ _ _ _ _ HP2.out HT).mono ?_;rintro e x3 ⟨rfl,hb⟩;have hyb:=HY2.out.below hb;have c0:=hyb.cell 0 rfl;have c1:=hyb.cell 1 rfl;have c2:=hyb.cell 2 rfl;have c3:=hyb.cell 3 rfl;have c4:=hyb.cell 4 rfl;have c5:=hyb.cell 5 rfl;have c6:=hyb.cell 6 rfl;have hzb:=HZ2.out.below hb;have m0:=hzb.cell 0 rfl;have m1:=hzb.cell 1 rfl;have m2:=hzb.cell 2 rfl;have m3:=hzb.cell 3 rfl;have m4:=hzb.cell 4 rfl;have m5:=hzb.cell 5 rfl;have m6:=hzb.cell 6 rfl;have mf:=hzb.fz;have HX3:=Lib.hid (HX2.out.below hb);have HP3:=Lib.hid (HP2.out.below hb);have HK3:=Lib.hid (HK2.out.trans (.of_below hb));clear hyb hzb hb))
   refine bodyPost_ret (v:= .agg #[.int .i64 op2,.int .i64 nn2,.string s2,.slice p2 pl2 pc2,.slice q2 ql2 qc2,.bool o2,.slice k2 kl2 kc2]) (by simp [results,Tryz.results61,go_sem,m0,m1,m2,m3,m4,m5,m6]) rfl ?_
   exact put_end (x:=x3) ⟨op2,nn2,s2,p2,pl2,pc2,q2,ql2,qc2,o2,k2,kl2,kc2⟩ rfl HX3.out HP3.out HK3.out hpl
  ·rw [if_neg (fun e=>hk (hend.2 e))]
   have hk2:(k !=0)=true:=by simpa using hk
   clear hend hk
   go_enter Tryz.func61,Tryz.ntmps61
   go_wp2_with (first
    |(go_at_call 101;refine (whole_as _ _ _ _ _ _ _ (H.out.below HB0.out) HPT).mono ?_;rintro e x2 hq;obtain ⟨v,a2,cp2,rfl,hv,hPm,hKm⟩:=hq.yes;obtain ⟨op2,nn2,s2,p2,pl2,pc2,q2,ql2,qc2,o2,k2,kl2,kc2,rfl,hX⟩:=VX.hd hv;have hba:=bl_alloc (o:= .cells #[.int .i64 op2,.int .i64 nn2,.string s2,.slice p2 pl2 pc2,.slice q2 ql2 qc2,.bool o2,.slice k2 kl2 kc2] 35) (Below.refl x2.heap.size x2);have HX2:=Lib.hid ((hX.less (Q:=fun b=>w.heap.size+1≤b) (fun b lt hb=>by have h1:=HZ0.out.lt;have hb2:_≤b:=hb;omega)).below hba);have HP2:=Lib.hid (hPm.below hba);have HZ2:=Lib.hid ((HZ0.out.keep hKm (by omega)).below hba);have HY2:=Lib.hid (Bx.new x2 #[.int .i64 op2,.int .i64 nn2,.string s2,.slice p2 pl2 pc2,.slice q2 ql2 qc2,.bool o2,.slice k2 kl2 kc2] 35);have HK2:=Lib.hid (((Keep.of_below HB0.out).trans hKm).trans (.of_below hba));clear hX hv hPm hKm hq hba)
    |(go_at_call 96;refine (next_as _ _ _ _ _ _ _ _ _ _ _ HP2.out HT).mono ?_;rintro e x3 ⟨rfl,hb⟩;have HP3:=Lib.hid (HP2.out.below hb);have HK3:=Lib.hid (HK2.out.trans (.of_below hb));clear hb)
    |(go_at_call 97;refine (fault_as _ _ _ _ _ _ _ _ _ HP3.out HX).mono ?_;rintro e x4 ⟨rfl,hb⟩;have HK4:=Lib.hid (HK3.out.trans (.of_below hb));clear hb))
   exact ⟨rfl,.mkN rfl HK4.out⟩
end Go.Proofs.YtkfihhagcimcmaaGreatDoor.Ps
