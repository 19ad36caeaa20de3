/- Pv, Pw -/
import Derived.Test.YtkfihhagcimcmaaGreatDoorChecked
import Derived.Test.YtkfihhagcimcmaaGreatDoorProg
import Derived.Test.YtkfihhagcimcmaaGreatDoorY1
import Derived.Test.YtkfihhagcimcmaaGreatDoorYbc
namespace Go.Proofs.YtkfihhagcimcmaaGreatDoor.Ps
open Go.RowKit
open Lx (Tok bl_alloc)
def Hd.decl (h:Hd) (nm:ByteArray) (r:Bool):Value:= .agg #[.string nm,.bool r,.int .i64 h.op,.int .i64 h.n,.string h.s,.slice h.p h.pl h.pc,.slice h.q h.ql h.qc,.bool h.o,.slice h.k h.kl h.kc]
def VD (B:Nat) (w:World) (d:De) (v:Value):Prop:=∃h:Hd,v=Hd.decl h d.nm d.r∧XB (fun b=>B≤b) w h d.x∧d.nm.size≤4096
def putAt (w:World) (b:Nat):Nat→List Value→World
 |_,[]=>w
 |i,v::l=>putAt (w.setCell ⟨b,i,none⟩ v) b (i+1) l
theorem putAt_grown (b:Nat):∀(w:World) (i:Nat) (l:List Value),w.grownBy (putAt w b i l) (some b)
 |w,_,[]=>World.grownBy.refl w _
 |w,i,v::l=>by
  have g:w.grownBy (w.setCell ⟨b,i,none⟩ v) (some b):=⟨rfl,rfl,rfl,by simp [World.setCell],fun k hk hne=>Below.heap_setCell w ⟨b,i,none⟩ v k (fun e=>hne (by rw [e]))⟩
  exact g.trans (putAt_grown b _ (i+1) l)
theorem decl_end {w x:World} {p cap:Nat} {a:Option Addr} {M:List Tok} {E:Int} {R:Res De} (h:Hd) (d:De) (hR:R= .ok d M) (hX:XB (fun b=>w.heap.size+1≤b) x h d.x) (hz:d.nm.size≤4096) (hP:Prs x p a cap M E 0) (hK:Keep p w x) (hpl:p<w.heap.size) (l:List Value):
  PostR (VD w.heap.size) w p E 0 R (.returned (Hd.decl h d.nm d.r)) (putAt x w.heap.size 0 l):=by
 have hg:=putAt_grown w.heap.size x 0 l
 exact .mkY hR ⟨h,rfl,hX.turn hg.size (fun b lt hb=>⟨hg.block b lt (fun e=>by injection e with e;omega),by omega⟩),hz⟩ (hP.grown hg (fun k e=>by cases e;exact hpl)) (hK.grown hg (fun k e=>by cases e;exact Nat.le_refl _))
theorem resB_pk (E:Int) (L:List Tok):resB L=((pk E L).x.k==2&&(pk E L).x.t==[114,101,115,111,117,114,99,101]):=by
 cases L with
 |nil=>rfl
 |cons t M=>rfl
theorem set_grown1 (w:World) (b i:Nat) (v:Value):w.grownBy (w.setCell ⟨b,i,none⟩ v) (some b):=⟨rfl,rfl,rfl,by simp [World.setCell],fun k hk hne=>Below.heap_setCell w ⟨b,i,none⟩ v k (fun e=>hne (by rw [e]))⟩
set_option maxRecDepth 100000 in
set_option maxHeartbeats 16000000 in
theorem decl_any (w:World) (p cap:Nat) (a:Option Addr) (L:List Tok) (E:Int) (h:Prs w p a cap L E 0):Calls Tryz.prog 98 #[.pointer (some ⟨p,0,none⟩)] w (PostR (VD w.heap.size) w p E 0 (declM E L)):=by
 have H:=Lib.hid h
 have hpl:=h.lt
 have HB0:=Lib.hid (bl_alloc (o:= .cells #[.string ⟨#[]⟩,.bool false,.int .i64 0,.int .i64 0,.string ⟨#[]⟩,.slice none 0 0,.slice none 0 0,.bool false,.slice none 0 0] 55) (bl_alloc (o:= .cells #[.string ⟨#[]⟩,.bool false,.int .i64 0,.int .i64 0,.string ⟨#[]⟩,.slice none 0 0,.slice none 0 0,.bool false,.slice none 0 0] 55) (Below.refl w.heap.size w)))
 have HZ0:=Lib.hid ((Bx.new w #[.string ⟨#[]⟩,.bool false,.int .i64 0,.int .i64 0,.string ⟨#[]⟩,.slice none 0 0,.slice none 0 0,.bool false,.slice none 0 0] 55).old (.cells #[.string ⟨#[]⟩,.bool false,.int .i64 0,.int .i64 0,.string ⟨#[]⟩,.slice none 0 0,.slice none 0 0,.bool false,.slice none 0 0] 55))
 have HD0:=Lib.hid (Bx.new (w.alloc (.cells #[.string ⟨#[]⟩,.bool false,.int .i64 0,.int .i64 0,.string ⟨#[]⟩,.slice none 0 0,.slice none 0 0,.bool false,.slice none 0 0] 55)) #[.string ⟨#[]⟩,.bool false,.int .i64 0,.int .i64 0,.string ⟨#[]⟩,.slice none 0 0,.slice none 0 0,.bool false,.slice none 0 0] 55)
 rw [show (w.alloc (.cells #[.string ⟨#[]⟩,.bool false,.int .i64 0,.int .i64 0,.string ⟨#[]⟩,.slice none 0 0,.slice none 0 0,.bool false,.slice none 0 0] 55)).heap.size=w.heap.size+1 by simp] at HD0
 obtain ⟨k,n,at_,S,ht⟩:=pk_get E L
 have HTK:=Lib.hid ht
 obtain ⟨R,hR1⟩:∃R,R=declM E L:=⟨_,rfl⟩
 rw [←hR1]
 unfold declM at hR1
 rw [resB_pk E,ht] at hR1
 dsimp only at hR1
 clear h
 by_cases hres:k=2∧(S.toList==[114,101,115,111,117,114,99,101])=true
 ·obtain ⟨rfl,hs⟩:=hres
  obtain ⟨t0,T0,rfl,_⟩:=pk_cons (E:=E) (L:=L) (by rw [ht];show (2:Int)≠0;decide)
  rw [hs] at hR1
  replace hR1:R=decl1 E true T0:=hR1
  have HOK:=Lib.hid (H.out.ok.suf (List.suffix_cons t0 T0))
  clear ht
  cases hq0:nameM E T0 with
  |bad x y=>
   have HQ:=Lib.hid hq0
   obtain ⟨h1,rfl,rfl⟩:=nameM_bad hq0
   have HR:Hid (R= .bad (pk E T0).at_ 21):=Lib.hid (by rw [hR1];unfold decl1;rw [if_neg (by simp [h1])])
   clear hR1 hq0 h1
   generalize (pk E T0).at_=at2 at*
   go_enter Tryz.func98,Tryz.ntmps98
   go_wp2_with (first
    |(go_at_call 96;refine (next_as _ _ _ _ _ _ _ _ _ _ _ (H.out.below HB0.out) HTK).mono ?_;rintro e x1 ⟨rfl,hb⟩;have hba:=bl_alloc (o:= .cells #[.int .i64 2,.int .i64 n,.string S,.int .i64 at_] 155) hb;have HP1:=Lib.hid ((H.out.below HB0.out).below hba);have HK1:=Lib.hid ((Keep.of_below (B:=p) HB0.out).trans (.of_below hba));have HZ1:=Lib.hid (HZ0.out.below hba);have HD1:=Lib.hid (HD0.out.below hba);have hdm:=HD1.out;have j1:=hdm.cell 1 rfl;have jf:=hdm.fz;have hgm:=set_grown1 (x1.alloc (.cells #[.int .i64 2,.int .i64 n,.string S,.int .i64 at_] 155)) (w.heap.size+1) 1 (.bool true);have HP1s:=Lib.hid (HP1.out.grown hgm (fun k e=>by cases e;omega));have HK1s:=Lib.hid (HK1.out.grown hgm (fun k e=>by cases e;omega));have HZ1s:=Lib.hid (HZ1.out.other (c:=w.heap.size+1) (i:=1) (v:= .bool true) (by omega));have HD1s:Hid (Bx ((x1.alloc (.cells #[.int .i64 2,.int .i64 n,.string S,.int .i64 at_] 155)).setCell ⟨w.heap.size+1,1,none⟩ (.bool true)) (w.heap.size+1) #[.string ⟨#[]⟩,.bool true,.int .i64 0,.int .i64 0,.string ⟨#[]⟩,.slice none 0 0,.slice none 0 0,.bool false,.slice none 0 0] 55):=Lib.hid (by have:=hdm.set (i:=1) (v:= .bool true);simp only [List.setIfInBounds_toArray,List.set_cons_succ,List.set_cons_zero] at this;exact this);clear hdm hgm;clear hb hba)
    |(go_at_call 141;refine (pass_any _ _ _ _ _ _ _ _ HP1s.out).mono ?_;rintro e x2 hq;obtain ⟨v,a2,cp2,rfl,hv,hPm,hKm⟩:=hq.yes;obtain rfl:=hv;clear j1 jf;have HP2:=Lib.hid hPm;have HK2:=Lib.hid (HK1s.out.trans hKm);have HZ2:=Lib.hid (HZ1s.out.keep hKm (by omega));have HD2:=Lib.hid (HD1s.out.keep hKm (by omega));clear hPm hKm hq)
    |(go_at_call 142;(with_reducible refine (name_as _ _ _ _ _ _ _ _ HP2.out HQ).mono ?_);rintro e x3 hq;obtain ⟨rfl,hKm⟩:=hq.no;have HK3:=Lib.hid (HK2.out.trans hKm);clear hq hKm))
   exact ⟨rfl,.mkN HR.out HK3.out⟩
  |ok s M=>
   have HQ:=Lib.hid hq0
   obtain ⟨h1,h2,rfl⟩:=nameM_ok hq0
   have HSZ:=Lib.hid (nameM_size (HOK.out) hq0)
   unfold decl1 at hR1
   rw [if_pos h1,h2] at hR1
   obtain ⟨t,T,rfl,_,_⟩:=nameB_cons h1
   rw [List.tail_cons] at hR1
   clear hq0 h1 h2
   cases hm1:must E [58] T with
   |bad x y=>
    have HM1:Hid (must E (ByteArray.toList ⟨#[58]⟩) T= .bad x y):=Lib.hid ((mustL E [58] T).trans hm1)
    have HR:Hid (R= .bad x y):=Lib.hid (by rw [hR1,hm1];rfl)
    clear hR1 hm1
    go_enter Tryz.func98,Tryz.ntmps98
    go_wp2_with (first
     |(go_at_call 96;refine (next_as _ _ _ _ _ _ _ _ _ _ _ (H.out.below HB0.out) HTK).mono ?_;rintro e x1 ⟨rfl,hb⟩;have hba:=bl_alloc (o:= .cells #[.int .i64 2,.int .i64 n,.string S,.int .i64 at_] 155) hb;have HP1:=Lib.hid ((H.out.below HB0.out).below hba);have HK1:=Lib.hid ((Keep.of_below (B:=p) HB0.out).trans (.of_below hba));have HZ1:=Lib.hid (HZ0.out.below hba);have HD1:=Lib.hid (HD0.out.below hba);have hdm:=HD1.out;have j1:=hdm.cell 1 rfl;have jf:=hdm.fz;have hgm:=set_grown1 (x1.alloc (.cells #[.int .i64 2,.int .i64 n,.string S,.int .i64 at_] 155)) (w.heap.size+1) 1 (.bool true);have HP1s:=Lib.hid (HP1.out.grown hgm (fun k e=>by cases e;omega));have HK1s:=Lib.hid (HK1.out.grown hgm (fun k e=>by cases e;omega));have HZ1s:=Lib.hid (HZ1.out.other (c:=w.heap.size+1) (i:=1) (v:= .bool true) (by omega));have HD1s:Hid (Bx ((x1.alloc (.cells #[.int .i64 2,.int .i64 n,.string S,.int .i64 at_] 155)).setCell ⟨w.heap.size+1,1,none⟩ (.bool true)) (w.heap.size+1) #[.string ⟨#[]⟩,.bool true,.int .i64 0,.int .i64 0,.string ⟨#[]⟩,.slice none 0 0,.slice none 0 0,.bool false,.slice none 0 0] 55):=Lib.hid (by have:=hdm.set (i:=1) (v:= .bool true);simp only [List.setIfInBounds_toArray,List.set_cons_succ,List.set_cons_zero] at this;exact this);clear hdm hgm;clear hb hba)
     |(go_at_call 141;refine (pass_any _ _ _ _ _ _ _ _ HP1s.out).mono ?_;rintro e x2 hq;obtain ⟨v,a2,cp2,rfl,hv,hPm,hKm⟩:=hq.yes;obtain rfl:=hv;clear j1 jf;have HP2:=Lib.hid hPm;have HK2:=Lib.hid (HK1s.out.trans hKm);have HZ2:=Lib.hid (HZ1s.out.keep hKm (by omega));have HD2:=Lib.hid (HD1s.out.keep hKm (by omega));clear hPm hKm hq)
     |(go_at_call 142;(with_reducible refine (name_as _ _ _ _ _ _ _ _ HP2.out HQ).mono ?_);rintro e x3 hq;obtain ⟨v,a3,cp3,rfl,hv,hPm,hKm⟩:=hq.yes;obtain rfl:=hv;have HP3:=Lib.hid hPm;have HK3:=Lib.hid (HK2.out.trans hKm);have HZ3:=Lib.hid (HZ2.out.keep hKm (by omega));have HD3:=Lib.hid (HD2.out.keep hKm (by omega));have hdm:=HD3.out;have j0:=hdm.cell 0 rfl;have jf:=hdm.fz;have hgm:=set_grown1 x3 (w.heap.size+1) 0 (.string s);have HP3':=HP3;have HP3:=Lib.hid (HP3'.out.grown hgm (fun k e=>by cases e;omega));have HK3':=HK3;have HK3:=Lib.hid (HK3'.out.grown hgm (fun k e=>by cases e;omega));have HZ3':=HZ3;have HZ3:=Lib.hid (HZ3'.out.other (c:=w.heap.size+1) (i:=0) (v:= .string s) (by omega));have HD3:Hid (Bx (x3.setCell ⟨w.heap.size+1,0,none⟩ (.string s)) (w.heap.size+1) #[.string s,.bool true,.int .i64 0,.int .i64 0,.string ⟨#[]⟩,.slice none 0 0,.slice none 0 0,.bool false,.slice none 0 0] 55):=Lib.hid (by have:=hdm.set (i:=0) (v:= .string s);simp only [List.setIfInBounds_toArray,List.set_cons_zero] at this;exact this);clear hdm hgm HP3' HK3' HZ3';clear hPm hKm hq)
     |(go_at_call 141;(with_reducible refine (pass_any _ _ _ _ _ _ _ _ HP3.out).mono ?_);rintro e x4 hq;obtain ⟨v,a4,cp4,rfl,hv,hPm,hKm⟩:=hq.yes;obtain rfl:=hv;have HP4:=Lib.hid hPm;have HK4:=Lib.hid (HK3.out.trans hKm);have HZ4:=Lib.hid (HZ3.out.keep hKm (by omega));have HD4:=Lib.hid (HD3.out.keep hKm (by omega));clear j0 jf;clear hPm hKm hq)
     |(go_at_call 143;(with_reducible refine (must_as _ _ _ _ _ _ _ _ _ HP4.out HM1).mono ?_);rintro e x5 hq;obtain ⟨rfl,hKm⟩:=hq.no;have HK5:=Lib.hid (HK4.out.trans hKm);clear hq hKm))
    exact ⟨rfl,.mkN HR.out HK5.out⟩
   |ok u T2=>
    have HM1:Hid (must E (ByteArray.toList ⟨#[58]⟩) T= .ok u T2):=Lib.hid ((mustL E [58] T).trans hm1)
    rw [hm1] at hR1
    dsimp only [Res.bind] at hR1
    clear hm1
    cases hp:wholeM E T2 with
    |bad x y=>
     have HPT:=Lib.hid hp
     have HR:Hid (R= .bad x y):=Lib.hid (by rw [hR1,hp])
     clear hR1 hp
     go_enter Tryz.func98,Tryz.ntmps98
     go_wp2_with (first
      |(go_at_call 96;refine (next_as _ _ _ _ _ _ _ _ _ _ _ (H.out.below HB0.out) HTK).mono ?_;rintro e x1 ⟨rfl,hb⟩;have hba:=bl_alloc (o:= .cells #[.int .i64 2,.int .i64 n,.string S,.int .i64 at_] 155) hb;have HP1:=Lib.hid ((H.out.below HB0.out).below hba);have HK1:=Lib.hid ((Keep.of_below (B:=p) HB0.out).trans (.of_below hba));have HZ1:=Lib.hid (HZ0.out.below hba);have HD1:=Lib.hid (HD0.out.below hba);have hdm:=HD1.out;have j1:=hdm.cell 1 rfl;have jf:=hdm.fz;have hgm:=set_grown1 (x1.alloc (.cells #[.int .i64 2,.int .i64 n,.string S,.int .i64 at_] 155)) (w.heap.size+1) 1 (.bool true);have HP1s:=Lib.hid (HP1.out.grown hgm (fun k e=>by cases e;omega));have HK1s:=Lib.hid (HK1.out.grown hgm (fun k e=>by cases e;omega));have HZ1s:=Lib.hid (HZ1.out.other (c:=w.heap.size+1) (i:=1) (v:= .bool true) (by omega));have HD1s:Hid (Bx ((x1.alloc (.cells #[.int .i64 2,.int .i64 n,.string S,.int .i64 at_] 155)).setCell ⟨w.heap.size+1,1,none⟩ (.bool true)) (w.heap.size+1) #[.string ⟨#[]⟩,.bool true,.int .i64 0,.int .i64 0,.string ⟨#[]⟩,.slice none 0 0,.slice none 0 0,.bool false,.slice none 0 0] 55):=Lib.hid (by have:=hdm.set (i:=1) (v:= .bool true);simp only [List.setIfInBounds_toArray,List.set_cons_succ,List.set_cons_zero] at this;exact this);clear hdm hgm;clear hb hba)
      |(go_at_call 141;refine (pass_any _ _ _ _ _ _ _ _ HP1s.out).mono ?_;rintro e x2 hq;obtain ⟨v,a2,cp2,rfl,hv,hPm,hKm⟩:=hq.yes;obtain rfl:=hv;clear j1 jf;have HP2:=Lib.hid hPm;have HK2:=Lib.hid (HK1s.out.trans hKm);have HZ2:=Lib.hid (HZ1s.out.keep hKm (by omega));have HD2:=Lib.hid (HD1s.out.keep hKm (by omega));clear hPm hKm hq)
      |(go_at_call 142;(with_reducible refine (name_as _ _ _ _ _ _ _ _ HP2.out HQ).mono ?_);rintro e x3 hq;obtain ⟨v,a3,cp3,rfl,hv,hPm,hKm⟩:=hq.yes;obtain rfl:=hv;have HP3:=Lib.hid hPm;have HK3:=Lib.hid (HK2.out.trans hKm);have HZ3:=Lib.hid (HZ2.out.keep hKm (by omega));have HD3:=Lib.hid (HD2.out.keep hKm (by omega));have hdm:=HD3.out;have j0:=hdm.cell 0 rfl;have jf:=hdm.fz;have hgm:=set_grown1 x3 (w.heap.size+1) 0 (.string s);have HP3':=HP3;have HP3:=Lib.hid (HP3'.out.grown hgm (fun k e=>by cases e;omega));have HK3':=HK3;have HK3:=Lib.hid (HK3'.out.grown hgm (fun k e=>by cases e;omega));have HZ3':=HZ3;have HZ3:=Lib.hid (HZ3'.out.other (c:=w.heap.size+1) (i:=0) (v:= .string s) (by omega));have HD3:Hid (Bx (x3.setCell ⟨w.heap.size+1,0,none⟩ (.string s)) (w.heap.size+1) #[.string s,.bool true,.int .i64 0,.int .i64 0,.string ⟨#[]⟩,.slice none 0 0,.slice none 0 0,.bool false,.slice none 0 0] 55):=Lib.hid (by have:=hdm.set (i:=0) (v:= .string s);simp only [List.setIfInBounds_toArray,List.set_cons_zero] at this;exact this);clear hdm hgm HP3' HK3' HZ3';clear hPm hKm hq)
      |(go_at_call 141;(with_reducible refine (pass_any _ _ _ _ _ _ _ _ HP3.out).mono ?_);rintro e x4 hq;obtain ⟨v,a4,cp4,rfl,hv,hPm,hKm⟩:=hq.yes;obtain rfl:=hv;have HP4:=Lib.hid hPm;have HK4:=Lib.hid (HK3.out.trans hKm);have HZ4:=Lib.hid (HZ3.out.keep hKm (by omega));have HD4:=Lib.hid (HD3.out.keep hKm (by omega));clear j0 jf;clear hPm hKm hq)
      |(go_at_call 143;(with_reducible refine (must_as _ _ _ _ _ _ _ _ _ HP4.out HM1).mono ?_);rintro e x5 hq;obtain ⟨v,a5,cp5,rfl,hv,hPm,hKm⟩:=hq.yes;obtain rfl:=hv;have HP5:=Lib.hid hPm;have HK5:=Lib.hid (HK4.out.trans hKm);have HZ5:=Lib.hid (HZ4.out.keep hKm (by omega));have HD5:=Lib.hid (HD4.out.keep hKm (by omega));clear hPm hKm hq)
      |(go_at_call 101;refine (whole_as _ _ _ _ _ _ _ HP5.out HPT).mono ?_;rintro e x6 hq;obtain ⟨rfl,hKm⟩:=hq.no;have HK6:=Lib.hid (HK5.out.trans hKm);clear hq hKm))
     exact ⟨rfl,.mkN HR.out HK6.out⟩
    |ok x T3=>
     have HPT:=Lib.hid hp
     rw [hp] at hR1
     dsimp only at hR1
     clear hp
     cases hm2:must E [59] T3 with
     |bad y z=>
      have HM2:Hid (must E (ByteArray.toList ⟨#[59]⟩) T3= .bad y z):=Lib.hid ((mustL E [59] T3).trans hm2)
      have HR:Hid (R= .bad y z):=Lib.hid (by rw [hR1,hm2])
      clear hR1 hm2
      go_enter Tryz.func98,Tryz.ntmps98
      go_wp2_with (first
       |(go_at_call 96;refine (next_as _ _ _ _ _ _ _ _ _ _ _ (H.out.below HB0.out) HTK).mono ?_;rintro e x1 ⟨rfl,hb⟩;have hba:=bl_alloc (o:= .cells #[.int .i64 2,.int .i64 n,.string S,.int .i64 at_] 155) hb;have HP1:=Lib.hid ((H.out.below HB0.out).below hba);have HK1:=Lib.hid ((Keep.of_below (B:=p) HB0.out).trans (.of_below hba));have HZ1:=Lib.hid (HZ0.out.below hba);have HD1:=Lib.hid (HD0.out.below hba);have hdm:=HD1.out;have j1:=hdm.cell 1 rfl;have jf:=hdm.fz;have hgm:=set_grown1 (x1.alloc (.cells #[.int .i64 2,.int .i64 n,.string S,.int .i64 at_] 155)) (w.heap.size+1) 1 (.bool true);have HP1s:=Lib.hid (HP1.out.grown hgm (fun k e=>by cases e;omega));have HK1s:=Lib.hid (HK1.out.grown hgm (fun k e=>by cases e;omega));have HZ1s:=Lib.hid (HZ1.out.other (c:=w.heap.size+1) (i:=1) (v:= .bool true) (by omega));have HD1s:Hid (Bx ((x1.alloc (.cells #[.int .i64 2,.int .i64 n,.string S,.int .i64 at_] 155)).setCell ⟨w.heap.size+1,1,none⟩ (.bool true)) (w.heap.size+1) #[.string ⟨#[]⟩,.bool true,.int .i64 0,.int .i64 0,.string ⟨#[]⟩,.slice none 0 0,.slice none 0 0,.bool false,.slice none 0 0] 55):=Lib.hid (by have:=hdm.set (i:=1) (v:= .bool true);simp only [List.setIfInBounds_toArray,List.set_cons_succ,List.set_cons_zero] at this;exact this);clear hdm hgm;clear hb hba)
       |(go_at_call 141;refine (pass_any _ _ _ _ _ _ _ _ HP1s.out).mono ?_;rintro e x2 hq;obtain ⟨v,a2,cp2,rfl,hv,hPm,hKm⟩:=hq.yes;obtain rfl:=hv;clear j1 jf;have HP2:=Lib.hid hPm;have HK2:=Lib.hid (HK1s.out.trans hKm);have HZ2:=Lib.hid (HZ1s.out.keep hKm (by omega));have HD2:=Lib.hid (HD1s.out.keep hKm (by omega));clear hPm hKm hq)
       |(go_at_call 142;(with_reducible refine (name_as _ _ _ _ _ _ _ _ HP2.out HQ).mono ?_);rintro e x3 hq;obtain ⟨v,a3,cp3,rfl,hv,hPm,hKm⟩:=hq.yes;obtain rfl:=hv;have HP3:=Lib.hid hPm;have HK3:=Lib.hid (HK2.out.trans hKm);have HZ3:=Lib.hid (HZ2.out.keep hKm (by omega));have HD3:=Lib.hid (HD2.out.keep hKm (by omega));have hdm:=HD3.out;have j0:=hdm.cell 0 rfl;have jf:=hdm.fz;have hgm:=set_grown1 x3 (w.heap.size+1) 0 (.string s);have HP3':=HP3;have HP3:=Lib.hid (HP3'.out.grown hgm (fun k e=>by cases e;omega));have HK3':=HK3;have HK3:=Lib.hid (HK3'.out.grown hgm (fun k e=>by cases e;omega));have HZ3':=HZ3;have HZ3:=Lib.hid (HZ3'.out.other (c:=w.heap.size+1) (i:=0) (v:= .string s) (by omega));have HD3:Hid (Bx (x3.setCell ⟨w.heap.size+1,0,none⟩ (.string s)) (w.heap.size+1) #[.string s,.bool true,.int .i64 0,.int .i64 0,.string ⟨#[]⟩,.slice none 0 0,.slice none 0 0,.bool false,.slice none 0 0] 55):=Lib.hid (by have:=hdm.set (i:=0) (v:= .string s);simp only [List.setIfInBounds_toArray,List.set_cons_zero] at this;exact this);clear hdm hgm HP3' HK3' HZ3';clear hPm hKm hq)
       |(go_at_call 141;(with_reducible refine (pass_any _ _ _ _ _ _ _ _ HP3.out).mono ?_);rintro e x4 hq;obtain ⟨v,a4,cp4,rfl,hv,hPm,hKm⟩:=hq.yes;obtain rfl:=hv;have HP4:=Lib.hid hPm;have HK4:=Lib.hid (HK3.out.trans hKm);have HZ4:=Lib.hid (HZ3.out.keep hKm (by omega));have HD4:=Lib.hid (HD3.out.keep hKm (by omega));clear j0 jf;clear hPm hKm hq)
       |(go_at_call 143;(with_reducible refine (must_as _ _ _ _ _ _ _ _ _ HP4.out HM1).mono ?_);rintro e x5 hq;obtain ⟨v,a5,cp5,rfl,hv,hPm,hKm⟩:=hq.yes;obtain rfl:=hv;have HP5:=Lib.hid hPm;have HK5:=Lib.hid (HK4.out.trans hKm);have HZ5:=Lib.hid (HZ4.out.keep hKm (by omega));have HD5:=Lib.hid (HD4.out.keep hKm (by omega));clear hPm hKm hq)
       |(go_at_call 101;refine (whole_as _ _ _ _ _ _ _ HP5.out HPT).mono ?_;rintro e x6 hq;obtain ⟨v,a6,cp6,rfl,hv,hPm,hKm⟩:=hq.yes;obtain ⟨op2,nn2,s2,p2,pl2,pc2,q2,ql2,qc2,o2,k2,kl2,kc2,rfl,hX⟩:=VX.hd hv;have hz5:=HZ5.out.lt;have hd5:=HD5.out.lt;have hdm:=HD5.out.keep hKm (by omega);have j2:=hdm.cell 2 rfl;have j3:=hdm.cell 3 rfl;have j4:=hdm.cell 4 rfl;have j5:=hdm.cell 5 rfl;have j6:=hdm.cell 6 rfl;have j7:=hdm.cell 7 rfl;have j8:=hdm.cell 8 rfl;have jf:=hdm.fz;have hgm:=putAt_grown (w.heap.size+1) x6 2 [.int .i64 op2,.int .i64 nn2,.string s2,.slice p2 pl2 pc2,.slice q2 ql2 qc2,.bool o2,.slice k2 kl2 kc2];have HX6:=Lib.hid (hX.turn (Q:=fun b=>w.heap.size+2≤b) hgm.size (fun b lt hb=>⟨hgm.block b lt (fun e=>by injection e with e;have hb2:_≤b:=hb;omega),by have hb2:_≤b:=hb;omega⟩));have HP6:=Lib.hid (hPm.grown hgm (fun k e=>by cases e;omega));have HK6:=Lib.hid ((HK5.out.trans hKm).grown hgm (fun k e=>by cases e;omega));have HZ6:Hid (Bx (putAt x6 (w.heap.size+1) 2 [.int .i64 op2,.int .i64 nn2,.string s2,.slice p2 pl2 pc2,.slice q2 ql2 qc2,.bool o2,.slice k2 kl2 kc2]) w.heap.size #[.string ⟨#[]⟩,.bool false,.int .i64 0,.int .i64 0,.string ⟨#[]⟩,.slice none 0 0,.slice none 0 0,.bool false,.slice none 0 0] 55):=Lib.hid ((hgm.block _ (HZ5.out.keep hKm (by omega)).lt (fun e=>by injection e with e;omega)).trans (HZ5.out.keep hKm (by omega)));have HD6:Hid (Bx (putAt x6 (w.heap.size+1) 2 [.int .i64 op2,.int .i64 nn2,.string s2,.slice p2 pl2 pc2,.slice q2 ql2 qc2,.bool o2,.slice k2 kl2 kc2]) (w.heap.size+1) #[.string s,.bool true,.int .i64 op2,.int .i64 nn2,.string s2,.slice p2 pl2 pc2,.slice q2 ql2 qc2,.bool o2,.slice k2 kl2 kc2] 55):=Lib.hid (by have:=((((((hdm.set (i:=2) (v:= .int .i64 op2)).set (i:=3) (v:= .int .i64 nn2)).set (i:=4) (v:= .string s2)).set (i:=5) (v:= .slice p2 pl2 pc2)).set (i:=6) (v:= .slice q2 ql2 qc2)).set (i:=7) (v:= .bool o2)).set (i:=8) (v:= .slice k2 kl2 kc2);simp only [List.setIfInBounds_toArray,List.set_cons_succ,List.set_cons_zero] at this;exact this);unfold putAt putAt putAt putAt putAt putAt putAt putAt at HX6 HP6 HK6 HZ6 HD6;dsimp only [Nat.reduceAdd] at HX6 HP6 HK6 HZ6 HD6;clear hdm hgm hX hv hPm hKm hq hz5 hd5)
       |(go_at_call 143;(with_reducible refine (must_as _ _ _ _ _ _ _ _ _ HP6.out HM2).mono ?_);rintro e x7 hq;obtain ⟨rfl,hKm⟩:=hq.no;have HK7:=Lib.hid (HK6.out.trans hKm);clear hq hKm))
      exact ⟨rfl,.mkN HR.out HK7.out⟩
     |ok u2 T4=>
      have HM2:Hid (must E (ByteArray.toList ⟨#[59]⟩) T3= .ok u2 T4):=Lib.hid ((mustL E [59] T3).trans hm2)
      have HR:Hid (R= .ok ⟨true,s,x⟩ T4):=Lib.hid (by rw [hR1,hm2])
      clear hR1 hm2
      go_enter Tryz.func98,Tryz.ntmps98
      go_wp2_with (first
       |(go_at_call 96;refine (next_as _ _ _ _ _ _ _ _ _ _ _ (H.out.below HB0.out) HTK).mono ?_;rintro e x1 ⟨rfl,hb⟩;have hba:=bl_alloc (o:= .cells #[.int .i64 2,.int .i64 n,.string S,.int .i64 at_] 155) hb;have HP1:=Lib.hid ((H.out.below HB0.out).below hba);have HK1:=Lib.hid ((Keep.of_below (B:=p) HB0.out).trans (.of_below hba));have HZ1:=Lib.hid (HZ0.out.below hba);have HD1:=Lib.hid (HD0.out.below hba);have hdm:=HD1.out;have j1:=hdm.cell 1 rfl;have jf:=hdm.fz;have hgm:=set_grown1 (x1.alloc (.cells #[.int .i64 2,.int .i64 n,.string S,.int .i64 at_] 155)) (w.heap.size+1) 1 (.bool true);have HP1s:=Lib.hid (HP1.out.grown hgm (fun k e=>by cases e;omega));have HK1s:=Lib.hid (HK1.out.grown hgm (fun k e=>by cases e;omega));have HZ1s:=Lib.hid (HZ1.out.other (c:=w.heap.size+1) (i:=1) (v:= .bool true) (by omega));have HD1s:Hid (Bx ((x1.alloc (.cells #[.int .i64 2,.int .i64 n,.string S,.int .i64 at_] 155)).setCell ⟨w.heap.size+1,1,none⟩ (.bool true)) (w.heap.size+1) #[.string ⟨#[]⟩,.bool true,.int .i64 0,.int .i64 0,.string ⟨#[]⟩,.slice none 0 0,.slice none 0 0,.bool false,.slice none 0 0] 55):=Lib.hid (by have:=hdm.set (i:=1) (v:= .bool true);simp only [List.setIfInBounds_toArray,List.set_cons_succ,List.set_cons_zero] at this;exact this);clear hdm hgm;clear hb hba)
       |(go_at_call 141;refine (pass_any _ _ _ _ _ _ _ _ HP1s.out).mono ?_;rintro e x2 hq;obtain ⟨v,a2,cp2,rfl,hv,hPm,hKm⟩:=hq.yes;obtain rfl:=hv;clear j1 jf;have HP2:=Lib.hid hPm;have HK2:=Lib.hid (HK1s.out.trans hKm);have HZ2:=Lib.hid (HZ1s.out.keep hKm (by omega));have HD2:=Lib.hid (HD1s.out.keep hKm (by omega));clear hPm hKm hq)
       |(go_at_call 142;(with_reducible refine (name_as _ _ _ _ _ _ _ _ HP2.out HQ).mono ?_);rintro e x3 hq;obtain ⟨v,a3,cp3,rfl,hv,hPm,hKm⟩:=hq.yes;obtain rfl:=hv;have HP3:=Lib.hid hPm;have HK3:=Lib.hid (HK2.out.trans hKm);have HZ3:=Lib.hid (HZ2.out.keep hKm (by omega));have HD3:=Lib.hid (HD2.out.keep hKm (by omega));have hdm:=HD3.out;have j0:=hdm.cell 0 rfl;have jf:=hdm.fz;have hgm:=set_grown1 x3 (w.heap.size+1) 0 (.string s);have HP3':=HP3;have HP3:=Lib.hid (HP3'.out.grown hgm (fun k e=>by cases e;omega));have HK3':=HK3;have HK3:=Lib.hid (HK3'.out.grown hgm (fun k e=>by cases e;omega));have HZ3':=HZ3;have HZ3:=Lib.hid (HZ3'.out.other (c:=w.heap.size+1) (i:=0) (v:= .string s) (by omega));have HD3:Hid (Bx (x3.setCell ⟨w.heap.size+1,0,none⟩ (.string s)) (w.heap.size+1) #[.string s,.bool true,.int .i64 0,.int .i64 0,.string ⟨#[]⟩,.slice none 0 0,.slice none 0 0,.bool false,.slice none 0 0] 55):=Lib.hid (by have:=hdm.set (i:=0) (v:= .string s);simp only [List.setIfInBounds_toArray,List.set_cons_zero] at this;exact this);clear hdm hgm HP3' HK3' HZ3';clear hPm hKm hq)
       |(go_at_call 141;(with_reducible refine (pass_any _ _ _ _ _ _ _ _ HP3.out).mono ?_);rintro e x4 hq;obtain ⟨v,a4,cp4,rfl,hv,hPm,hKm⟩:=hq.yes;obtain rfl:=hv;have HP4:=Lib.hid hPm;have HK4:=Lib.hid (HK3.out.trans hKm);have HZ4:=Lib.hid (HZ3.out.keep hKm (by omega));have HD4:=Lib.hid (HD3.out.keep hKm (by omega));clear j0 jf;clear hPm hKm hq)
       |(go_at_call 143;(with_reducible refine (must_as _ _ _ _ _ _ _ _ _ HP4.out HM1).mono ?_);rintro e x5 hq;obtain ⟨v,a5,cp5,rfl,hv,hPm,hKm⟩:=hq.yes;obtain rfl:=hv;have HP5:=Lib.hid hPm;have HK5:=Lib.hid (HK4.out.trans hKm);have HZ5:=Lib.hid (HZ4.out.keep hKm (by omega));have HD5:=Lib.hid (HD4.out.keep hKm (by omega));clear hPm hKm hq)
       |(go_at_call 101;refine (whole_as _ _ _ _ _ _ _ HP5.out HPT).mono ?_;rintro e x6 hq;obtain ⟨v,a6,cp6,rfl,hv,hPm,hKm⟩:=hq.yes;obtain ⟨op2,nn2,s2,p2,pl2,pc2,q2,ql2,qc2,o2,k2,kl2,kc2,rfl,hX⟩:=VX.hd hv;have hz5:=HZ5.out.lt;have hd5:=HD5.out.lt;have hdm:=HD5.out.keep hKm (by omega);have j2:=hdm.cell 2 rfl;have j3:=hdm.cell 3 rfl;have j4:=hdm.cell 4 rfl;have j5:=hdm.cell 5 rfl;have j6:=hdm.cell 6 rfl;have j7:=hdm.cell 7 rfl;have j8:=hdm.cell 8 rfl;have jf:=hdm.fz;have hgm:=putAt_grown (w.heap.size+1) x6 2 [.int .i64 op2,.int .i64 nn2,.string s2,.slice p2 pl2 pc2,.slice q2 ql2 qc2,.bool o2,.slice k2 kl2 kc2];have HX6:=Lib.hid (hX.turn (Q:=fun b=>w.heap.size+2≤b) hgm.size (fun b lt hb=>⟨hgm.block b lt (fun e=>by injection e with e;have hb2:_≤b:=hb;omega),by have hb2:_≤b:=hb;omega⟩));have HP6:=Lib.hid (hPm.grown hgm (fun k e=>by cases e;omega));have HK6:=Lib.hid ((HK5.out.trans hKm).grown hgm (fun k e=>by cases e;omega));have HZ6:Hid (Bx (putAt x6 (w.heap.size+1) 2 [.int .i64 op2,.int .i64 nn2,.string s2,.slice p2 pl2 pc2,.slice q2 ql2 qc2,.bool o2,.slice k2 kl2 kc2]) w.heap.size #[.string ⟨#[]⟩,.bool false,.int .i64 0,.int .i64 0,.string ⟨#[]⟩,.slice none 0 0,.slice none 0 0,.bool false,.slice none 0 0] 55):=Lib.hid ((hgm.block _ (HZ5.out.keep hKm (by omega)).lt (fun e=>by injection e with e;omega)).trans (HZ5.out.keep hKm (by omega)));have HD6:Hid (Bx (putAt x6 (w.heap.size+1) 2 [.int .i64 op2,.int .i64 nn2,.string s2,.slice p2 pl2 pc2,.slice q2 ql2 qc2,.bool o2,.slice k2 kl2 kc2]) (w.heap.size+1) #[.string s,.bool true,.int .i64 op2,.int .i64 nn2,.string s2,.slice p2 pl2 pc2,.slice q2 ql2 qc2,.bool o2,.slice k2 kl2 kc2] 55):=Lib.hid (by have:=((((((hdm.set (i:=2) (v:= .int .i64 op2)).set (i:=3) (v:= .int .i64 nn2)).set (i:=4) (v:= .string s2)).set (i:=5) (v:= .slice p2 pl2 pc2)).set (i:=6) (v:= .slice q2 ql2 qc2)).set (i:=7) (v:= .bool o2)).set (i:=8) (v:= .slice k2 kl2 kc2);simp only [List.setIfInBounds_toArray,List.set_cons_succ,List.set_cons_zero] at this;exact this);unfold putAt putAt putAt putAt putAt putAt putAt putAt at HX6 HP6 HK6 HZ6 HD6;dsimp only [Nat.reduceAdd] at HX6 HP6 HK6 HZ6 HD6;clear hdm hgm hX hv hPm hKm hq hz5 hd5)
       |(go_at_call 143;(with_reducible refine (must_as _ _ _ _ _ _ _ _ _ HP6.out HM2).mono ?_);rintro e x7 hq;obtain ⟨v,a7,cp7,rfl,hv,hPm,hKm⟩:=hq.yes;obtain rfl:=hv;clear j2 j3 j4 j5 j6 j7 j8 jf;have HP7:=Lib.hid hPm;have HK7:=Lib.hid (HK6.out.trans hKm);have HX7:=Lib.hid (HX6.out.keep hKm (by omega));have q1:=HZ6.out.keep hKm (by omega);have q2:=HD6.out.keep hKm (by omega);have m0:=q1.cell 0 rfl;have m1:=q1.cell 1 rfl;have m2:=q1.cell 2 rfl;have m3:=q1.cell 3 rfl;have m4:=q1.cell 4 rfl;have m5:=q1.cell 5 rfl;have m6:=q1.cell 6 rfl;have m7:=q1.cell 7 rfl;have m8:=q1.cell 8 rfl;have mf:=q1.fz;have c0:=q2.cell 0 rfl;have c1:=q2.cell 1 rfl;have c2:=q2.cell 2 rfl;have c3:=q2.cell 3 rfl;have c4:=q2.cell 4 rfl;have c5:=q2.cell 5 rfl;have c6:=q2.cell 6 rfl;have c7:=q2.cell 7 rfl;have c8:=q2.cell 8 rfl;clear q1 q2 hPm hKm hq))
      refine bodyPost_ret (v:= .agg #[.string s,.bool true,.int .i64 op2,.int .i64 nn2,.string s2,.slice p2 pl2 pc2,.slice q2 ql2 qc2,.bool o2,.slice k2 kl2 kc2]) (by simp [results,Tryz.results98,go_sem,m0,m1,m2,m3,m4,m5,m6,m7,m8]) rfl ?_
      exact decl_end (x:=x7) ⟨op2,nn2,s2,p2,pl2,pc2,q2,ql2,qc2,o2,k2,kl2,kc2⟩ ⟨true,s,x⟩ HR.out (HX7.out.less (fun b _ hb=>by omega)) HSZ.out HP7.out HK7.out hpl [.string s,.bool true,.int .i64 op2,.int .i64 nn2,.string s2,.slice p2 pl2 pc2,.slice q2 ql2 qc2,.bool o2,.slice k2 kl2 kc2]
 ·replace hR1:R=decl1 E false L:=by
   rw [hR1]
   by_cases h2:k=2
   ·have h3:(S.toList==[114,101,115,111,117,114,99,101])=false:=by
     cases h4:(S.toList==[114,101,115,111,117,114,99,101]) with
     |false=>rfl
     |true=>exact absurd ⟨h2,h4⟩ hres
    rw [h3,Bool.and_false];rfl
   ·have h3:(k==2)=false:=by simpa using h2
    rw [h3,Bool.false_and];rfl
  have HOK:=Lib.hid H.out.ok
  have hres2:(k=2∧(S.toList==[114,101,115,111,117,114,99,101])=false)∨(k==2)=false:=by
   by_cases h2:k=2
   ·left
    refine ⟨h2,?_⟩
    cases h4:(S.toList==[114,101,115,111,117,114,99,101]) with
    |false=>rfl
    |true=>exact absurd ⟨h2,h4⟩ hres
   ·right;simpa using h2
  clear ht hres
  rcases hres2 with ⟨rfl,hs⟩|hs
  ·cases hq0:nameM E L with
   |bad x y=>
    have HQ:=Lib.hid hq0
    obtain ⟨h1,rfl,rfl⟩:=nameM_bad hq0
    have HR:Hid (R= .bad (pk E L).at_ 21):=Lib.hid (by rw [hR1];unfold decl1;rw [if_neg (by simp [h1])])
    clear hR1 hq0 h1
    generalize (pk E L).at_=at2 at*
    go_enter Tryz.func98,Tryz.ntmps98
    go_wp2_with (first
     |(go_at_call 96;refine (next_as _ _ _ _ _ _ _ _ _ _ _ (H.out.below HB0.out) HTK).mono ?_;rintro e x1 ⟨rfl,hb⟩;have hba:=bl_alloc (o:= .cells #[.int .i64 2,.int .i64 n,.string S,.int .i64 at_] 155) hb;have HP1:=Lib.hid ((H.out.below HB0.out).below hba);have HK1:=Lib.hid ((Keep.of_below (B:=p) HB0.out).trans (.of_below hba));have HZ1:=Lib.hid (HZ0.out.below hba);have HD1:=Lib.hid (HD0.out.below hba);have HP2:=HP1;have HK2:=HK1;have HZ2:=HZ1;have HD2:=HD1;clear hb hba)
     |(go_at_call 142;(with_reducible refine (name_as _ _ _ _ _ _ _ _ HP2.out HQ).mono ?_);rintro e x3 hq;obtain ⟨rfl,hKm⟩:=hq.no;have HK3:=Lib.hid (HK2.out.trans hKm);clear hq hKm))
    exact ⟨rfl,.mkN HR.out HK3.out⟩
   |ok s M=>
    have HQ:=Lib.hid hq0
    obtain ⟨h1,h2,rfl⟩:=nameM_ok hq0
    have HSZ:=Lib.hid (nameM_size (HOK.out) hq0)
    unfold decl1 at hR1
    rw [if_pos h1,h2] at hR1
    obtain ⟨t,T,rfl,_,_⟩:=nameB_cons h1
    rw [List.tail_cons] at hR1
    clear hq0 h1 h2
    cases hm1:must E [58] T with
    |bad x y=>
     have HM1:Hid (must E (ByteArray.toList ⟨#[58]⟩) T= .bad x y):=Lib.hid ((mustL E [58] T).trans hm1)
     have HR:Hid (R= .bad x y):=Lib.hid (by rw [hR1,hm1];rfl)
     clear hR1 hm1
     go_enter Tryz.func98,Tryz.ntmps98
     go_wp2_with (first
      |(go_at_call 96;refine (next_as _ _ _ _ _ _ _ _ _ _ _ (H.out.below HB0.out) HTK).mono ?_;rintro e x1 ⟨rfl,hb⟩;have hba:=bl_alloc (o:= .cells #[.int .i64 2,.int .i64 n,.string S,.int .i64 at_] 155) hb;have HP1:=Lib.hid ((H.out.below HB0.out).below hba);have HK1:=Lib.hid ((Keep.of_below (B:=p) HB0.out).trans (.of_below hba));have HZ1:=Lib.hid (HZ0.out.below hba);have HD1:=Lib.hid (HD0.out.below hba);have HP2:=HP1;have HK2:=HK1;have HZ2:=HZ1;have HD2:=HD1;clear hb hba)
      |(go_at_call 142;(with_reducible refine (name_as _ _ _ _ _ _ _ _ HP2.out HQ).mono ?_);rintro e x3 hq;obtain ⟨v,a3,cp3,rfl,hv,hPm,hKm⟩:=hq.yes;obtain rfl:=hv;have HP3:=Lib.hid hPm;have HK3:=Lib.hid (HK2.out.trans hKm);have HZ3:=Lib.hid (HZ2.out.keep hKm (by omega));have HD3:=Lib.hid (HD2.out.keep hKm (by omega));have hdm:=HD3.out;have j0:=hdm.cell 0 rfl;have jf:=hdm.fz;have hgm:=set_grown1 x3 (w.heap.size+1) 0 (.string s);have HP3':=HP3;have HP3:=Lib.hid (HP3'.out.grown hgm (fun k e=>by cases e;omega));have HK3':=HK3;have HK3:=Lib.hid (HK3'.out.grown hgm (fun k e=>by cases e;omega));have HZ3':=HZ3;have HZ3:=Lib.hid (HZ3'.out.other (c:=w.heap.size+1) (i:=0) (v:= .string s) (by omega));have HD3:Hid (Bx (x3.setCell ⟨w.heap.size+1,0,none⟩ (.string s)) (w.heap.size+1) #[.string s,.bool false,.int .i64 0,.int .i64 0,.string ⟨#[]⟩,.slice none 0 0,.slice none 0 0,.bool false,.slice none 0 0] 55):=Lib.hid (by have:=hdm.set (i:=0) (v:= .string s);simp only [List.setIfInBounds_toArray,List.set_cons_zero] at this;exact this);clear hdm hgm HP3' HK3' HZ3';clear hPm hKm hq)
      |(go_at_call 141;(with_reducible refine (pass_any _ _ _ _ _ _ _ _ HP3.out).mono ?_);rintro e x4 hq;obtain ⟨v,a4,cp4,rfl,hv,hPm,hKm⟩:=hq.yes;obtain rfl:=hv;have HP4:=Lib.hid hPm;have HK4:=Lib.hid (HK3.out.trans hKm);have HZ4:=Lib.hid (HZ3.out.keep hKm (by omega));have HD4:=Lib.hid (HD3.out.keep hKm (by omega));clear j0 jf;clear hPm hKm hq)
      |(go_at_call 143;(with_reducible refine (must_as _ _ _ _ _ _ _ _ _ HP4.out HM1).mono ?_);rintro e x5 hq;obtain ⟨rfl,hKm⟩:=hq.no;have HK5:=Lib.hid (HK4.out.trans hKm);clear hq hKm))
     exact ⟨rfl,.mkN HR.out HK5.out⟩
    |ok u T2=>
     have HM1:Hid (must E (ByteArray.toList ⟨#[58]⟩) T= .ok u T2):=Lib.hid ((mustL E [58] T).trans hm1)
     rw [hm1] at hR1
     dsimp only [Res.bind] at hR1
     clear hm1
     cases hp:wholeM E T2 with
     |bad x y=>
      have HPT:=Lib.hid hp
      have HR:Hid (R= .bad x y):=Lib.hid (by rw [hR1,hp])
      clear hR1 hp
      go_enter Tryz.func98,Tryz.ntmps98
      go_wp2_with (first
       |(go_at_call 96;refine (next_as _ _ _ _ _ _ _ _ _ _ _ (H.out.below HB0.out) HTK).mono ?_;rintro e x1 ⟨rfl,hb⟩;have hba:=bl_alloc (o:= .cells #[.int .i64 2,.int .i64 n,.string S,.int .i64 at_] 155) hb;have HP1:=Lib.hid ((H.out.below HB0.out).below hba);have HK1:=Lib.hid ((Keep.of_below (B:=p) HB0.out).trans (.of_below hba));have HZ1:=Lib.hid (HZ0.out.below hba);have HD1:=Lib.hid (HD0.out.below hba);have HP2:=HP1;have HK2:=HK1;have HZ2:=HZ1;have HD2:=HD1;clear hb hba)
       |(go_at_call 142;(with_reducible refine (name_as _ _ _ _ _ _ _ _ HP2.out HQ).mono ?_);rintro e x3 hq;obtain ⟨v,a3,cp3,rfl,hv,hPm,hKm⟩:=hq.yes;obtain rfl:=hv;have HP3:=Lib.hid hPm;have HK3:=Lib.hid (HK2.out.trans hKm);have HZ3:=Lib.hid (HZ2.out.keep hKm (by omega));have HD3:=Lib.hid (HD2.out.keep hKm (by omega));have hdm:=HD3.out;have j0:=hdm.cell 0 rfl;have jf:=hdm.fz;have hgm:=set_grown1 x3 (w.heap.size+1) 0 (.string s);have HP3':=HP3;have HP3:=Lib.hid (HP3'.out.grown hgm (fun k e=>by cases e;omega));have HK3':=HK3;have HK3:=Lib.hid (HK3'.out.grown hgm (fun k e=>by cases e;omega));have HZ3':=HZ3;have HZ3:=Lib.hid (HZ3'.out.other (c:=w.heap.size+1) (i:=0) (v:= .string s) (by omega));have HD3:Hid (Bx (x3.setCell ⟨w.heap.size+1,0,none⟩ (.string s)) (w.heap.size+1) #[.string s,.bool false,.int .i64 0,.int .i64 0,.string ⟨#[]⟩,.slice none 0 0,.slice none 0 0,.bool false,.slice none 0 0] 55):=Lib.hid (by have:=hdm.set (i:=0) (v:= .string s);simp only [List.setIfInBounds_toArray,List.set_cons_zero] at this;exact this);clear hdm hgm HP3' HK3' HZ3';clear hPm hKm hq)
       |(go_at_call 141;(with_reducible refine (pass_any _ _ _ _ _ _ _ _ HP3.out).mono ?_);rintro e x4 hq;obtain ⟨v,a4,cp4,rfl,hv,hPm,hKm⟩:=hq.yes;obtain rfl:=hv;have HP4:=Lib.hid hPm;have HK4:=Lib.hid (HK3.out.trans hKm);have HZ4:=Lib.hid (HZ3.out.keep hKm (by omega));have HD4:=Lib.hid (HD3.out.keep hKm (by omega));clear j0 jf;clear hPm hKm hq)
       |(go_at_call 143;(with_reducible refine (must_as _ _ _ _ _ _ _ _ _ HP4.out HM1).mono ?_);rintro e x5 hq;obtain ⟨v,a5,cp5,rfl,hv,hPm,hKm⟩:=hq.yes;obtain rfl:=hv;have HP5:=Lib.hid hPm;have HK5:=Lib.hid (HK4.out.trans hKm);have HZ5:=Lib.hid (HZ4.out.keep hKm (by omega));have HD5:=Lib.hid (HD4.out.keep hKm (by omega));clear hPm hKm hq)
       |(go_at_call 101;refine (whole_as _ _ _ _ _ _ _ HP5.out HPT).mono ?_;rintro e x6 hq;obtain ⟨rfl,hKm⟩:=hq.no;have HK6:=Lib.hid (HK5.out.trans hKm);clear hq hKm))
      exact ⟨rfl,.mkN HR.out HK6.out⟩
     |ok x T3=>
      have HPT:=Lib.hid hp
      rw [hp] at hR1
      dsimp only at hR1
      clear hp
      cases hm2:must E [59] T3 with
      |bad y z=>
       have HM2:Hid (must E (ByteArray.toList ⟨#[59]⟩) T3= .bad y z):=Lib.hid ((mustL E [59] T3).trans hm2)
       have HR:Hid (R= .bad y z):=Lib.hid (by rw [hR1,hm2])
       clear hR1 hm2
       go_enter Tryz.func98,Tryz.ntmps98
       go_wp2_with (first
        |(go_at_call 96;refine (next_as _ _ _ _ _ _ _ _ _ _ _ (H.out.below HB0.out) HTK).mono ?_;rintro e x1 ⟨rfl,hb⟩;have hba:=bl_alloc (o:= .cells #[.int .i64 2,.int .i64 n,.string S,.int .i64 at_] 155) hb;have HP1:=Lib.hid ((H.out.below HB0.out).below hba);have HK1:=Lib.hid ((Keep.of_below (B:=p) HB0.out).trans (.of_below hba));have HZ1:=Lib.hid (HZ0.out.below hba);have HD1:=Lib.hid (HD0.out.below hba);have HP2:=HP1;have HK2:=HK1;have HZ2:=HZ1;have HD2:=HD1;clear hb hba)
        |(go_at_call 142;(with_reducible refine (name_as _ _ _ _ _ _ _ _ HP2.out HQ).mono ?_);rintro e x3 hq;obtain ⟨v,a3,cp3,rfl,hv,hPm,hKm⟩:=hq.yes;obtain rfl:=hv;have HP3:=Lib.hid hPm;have HK3:=Lib.hid (HK2.out.trans hKm);have HZ3:=Lib.hid (HZ2.out.keep hKm (by omega));have HD3:=Lib.hid (HD2.out.keep hKm (by omega));have hdm:=HD3.out;have j0:=hdm.cell 0 rfl;have jf:=hdm.fz;have hgm:=set_grown1 x3 (w.heap.size+1) 0 (.string s);have HP3':=HP3;have HP3:=Lib.hid (HP3'.out.grown hgm (fun k e=>by cases e;omega));have HK3':=HK3;have HK3:=Lib.hid (HK3'.out.grown hgm (fun k e=>by cases e;omega));have HZ3':=HZ3;have HZ3:=Lib.hid (HZ3'.out.other (c:=w.heap.size+1) (i:=0) (v:= .string s) (by omega));have HD3:Hid (Bx (x3.setCell ⟨w.heap.size+1,0,none⟩ (.string s)) (w.heap.size+1) #[.string s,.bool false,.int .i64 0,.int .i64 0,.string ⟨#[]⟩,.slice none 0 0,.slice none 0 0,.bool false,.slice none 0 0] 55):=Lib.hid (by have:=hdm.set (i:=0) (v:= .string s);simp only [List.setIfInBounds_toArray,List.set_cons_zero] at this;exact this);clear hdm hgm HP3' HK3' HZ3';clear hPm hKm hq)
        |(go_at_call 141;(with_reducible refine (pass_any _ _ _ _ _ _ _ _ HP3.out).mono ?_);rintro e x4 hq;obtain ⟨v,a4,cp4,rfl,hv,hPm,hKm⟩:=hq.yes;obtain rfl:=hv;have HP4:=Lib.hid hPm;have HK4:=Lib.hid (HK3.out.trans hKm);have HZ4:=Lib.hid (HZ3.out.keep hKm (by omega));have HD4:=Lib.hid (HD3.out.keep hKm (by omega));clear j0 jf;clear hPm hKm hq)
        |(go_at_call 143;(with_reducible refine (must_as _ _ _ _ _ _ _ _ _ HP4.out HM1).mono ?_);rintro e x5 hq;obtain ⟨v,a5,cp5,rfl,hv,hPm,hKm⟩:=hq.yes;obtain rfl:=hv;have HP5:=Lib.hid hPm;have HK5:=Lib.hid (HK4.out.trans hKm);have HZ5:=Lib.hid (HZ4.out.keep hKm (by omega));have HD5:=Lib.hid (HD4.out.keep hKm (by omega));clear hPm hKm hq)
        |(go_at_call 101;refine (whole_as _ _ _ _ _ _ _ HP5.out HPT).mono ?_;rintro e x6 hq;obtain ⟨v,a6,cp6,rfl,hv,hPm,hKm⟩:=hq.yes;obtain ⟨op2,nn2,s2,p2,pl2,pc2,q2,ql2,qc2,o2,k2,kl2,kc2,rfl,hX⟩:=VX.hd hv;have hz5:=HZ5.out.lt;have hd5:=HD5.out.lt;have hdm:=HD5.out.keep hKm (by omega);have j2:=hdm.cell 2 rfl;have j3:=hdm.cell 3 rfl;have j4:=hdm.cell 4 rfl;have j5:=hdm.cell 5 rfl;have j6:=hdm.cell 6 rfl;have j7:=hdm.cell 7 rfl;have j8:=hdm.cell 8 rfl;have jf:=hdm.fz;have hgm:=putAt_grown (w.heap.size+1) x6 2 [.int .i64 op2,.int .i64 nn2,.string s2,.slice p2 pl2 pc2,.slice q2 ql2 qc2,.bool o2,.slice k2 kl2 kc2];have HX6:=Lib.hid (hX.turn (Q:=fun b=>w.heap.size+2≤b) hgm.size (fun b lt hb=>⟨hgm.block b lt (fun e=>by injection e with e;have hb2:_≤b:=hb;omega),by have hb2:_≤b:=hb;omega⟩));have HP6:=Lib.hid (hPm.grown hgm (fun k e=>by cases e;omega));have HK6:=Lib.hid ((HK5.out.trans hKm).grown hgm (fun k e=>by cases e;omega));have HZ6:Hid (Bx (putAt x6 (w.heap.size+1) 2 [.int .i64 op2,.int .i64 nn2,.string s2,.slice p2 pl2 pc2,.slice q2 ql2 qc2,.bool o2,.slice k2 kl2 kc2]) w.heap.size #[.string ⟨#[]⟩,.bool false,.int .i64 0,.int .i64 0,.string ⟨#[]⟩,.slice none 0 0,.slice none 0 0,.bool false,.slice none 0 0] 55):=Lib.hid ((hgm.block _ (HZ5.out.keep hKm (by omega)).lt (fun e=>by injection e with e;omega)).trans (HZ5.out.keep hKm (by omega)));have HD6:Hid (Bx (putAt x6 (w.heap.size+1) 2 [.int .i64 op2,.int .i64 nn2,.string s2,.slice p2 pl2 pc2,.slice q2 ql2 qc2,.bool o2,.slice k2 kl2 kc2]) (w.heap.size+1) #[.string s,.bool false,.int .i64 op2,.int .i64 nn2,.string s2,.slice p2 pl2 pc2,.slice q2 ql2 qc2,.bool o2,.slice k2 kl2 kc2] 55):=Lib.hid (by have:=((((((hdm.set (i:=2) (v:= .int .i64 op2)).set (i:=3) (v:= .int .i64 nn2)).set (i:=4) (v:= .string s2)).set (i:=5) (v:= .slice p2 pl2 pc2)).set (i:=6) (v:= .slice q2 ql2 qc2)).set (i:=7) (v:= .bool o2)).set (i:=8) (v:= .slice k2 kl2 kc2);simp only [List.setIfInBounds_toArray,List.set_cons_succ,List.set_cons_zero] at this;exact this);unfold putAt putAt putAt putAt putAt putAt putAt putAt at HX6 HP6 HK6 HZ6 HD6;dsimp only [Nat.reduceAdd] at HX6 HP6 HK6 HZ6 HD6;clear hdm hgm hX hv hPm hKm hq hz5 hd5)
        |(go_at_call 143;(with_reducible refine (must_as _ _ _ _ _ _ _ _ _ HP6.out HM2).mono ?_);rintro e x7 hq;obtain ⟨rfl,hKm⟩:=hq.no;have HK7:=Lib.hid (HK6.out.trans hKm);clear hq hKm))
       exact ⟨rfl,.mkN HR.out HK7.out⟩
      |ok u2 T4=>
       have HM2:Hid (must E (ByteArray.toList ⟨#[59]⟩) T3= .ok u2 T4):=Lib.hid ((mustL E [59] T3).trans hm2)
       have HR:Hid (R= .ok ⟨false,s,x⟩ T4):=Lib.hid (by rw [hR1,hm2])
       clear hR1 hm2
       go_enter Tryz.func98,Tryz.ntmps98
       go_wp2_with (first
        |(go_at_call 96;refine (next_as _ _ _ _ _ _ _ _ _ _ _ (H.out.below HB0.out) HTK).mono ?_;rintro e x1 ⟨rfl,hb⟩;have hba:=bl_alloc (o:= .cells #[.int .i64 2,.int .i64 n,.string S,.int .i64 at_] 155) hb;have HP1:=Lib.hid ((H.out.below HB0.out).below hba);have HK1:=Lib.hid ((Keep.of_below (B:=p) HB0.out).trans (.of_below hba));have HZ1:=Lib.hid (HZ0.out.below hba);have HD1:=Lib.hid (HD0.out.below hba);have HP2:=HP1;have HK2:=HK1;have HZ2:=HZ1;have HD2:=HD1;clear hb hba)
        |(go_at_call 142;(with_reducible refine (name_as _ _ _ _ _ _ _ _ HP2.out HQ).mono ?_);rintro e x3 hq;obtain ⟨v,a3,cp3,rfl,hv,hPm,hKm⟩:=hq.yes;obtain rfl:=hv;have HP3:=Lib.hid hPm;have HK3:=Lib.hid (HK2.out.trans hKm);have HZ3:=Lib.hid (HZ2.out.keep hKm (by omega));have HD3:=Lib.hid (HD2.out.keep hKm (by omega));have hdm:=HD3.out;have j0:=hdm.cell 0 rfl;have jf:=hdm.fz;have hgm:=set_grown1 x3 (w.heap.size+1) 0 (.string s);have HP3':=HP3;have HP3:=Lib.hid (HP3'.out.grown hgm (fun k e=>by cases e;omega));have HK3':=HK3;have HK3:=Lib.hid (HK3'.out.grown hgm (fun k e=>by cases e;omega));have HZ3':=HZ3;have HZ3:=Lib.hid (HZ3'.out.other (c:=w.heap.size+1) (i:=0) (v:= .string s) (by omega));have HD3:Hid (Bx (x3.setCell ⟨w.heap.size+1,0,none⟩ (.string s)) (w.heap.size+1) #[.string s,.bool false,.int .i64 0,.int .i64 0,.string ⟨#[]⟩,.slice none 0 0,.slice none 0 0,.bool false,.slice none 0 0] 55):=Lib.hid (by have:=hdm.set (i:=0) (v:= .string s);simp only [List.setIfInBounds_toArray,List.set_cons_zero] at this;exact this);clear hdm hgm HP3' HK3' HZ3';clear hPm hKm hq)
        |(go_at_call 141;(with_reducible refine (pass_any _ _ _ _ _ _ _ _ HP3.out).mono ?_);rintro e x4 hq;obtain ⟨v,a4,cp4,rfl,hv,hPm,hKm⟩:=hq.yes;obtain rfl:=hv;have HP4:=Lib.hid hPm;have HK4:=Lib.hid (HK3.out.trans hKm);have HZ4:=Lib.hid (HZ3.out.keep hKm (by omega));have HD4:=Lib.hid (HD3.out.keep hKm (by omega));clear j0 jf;clear hPm hKm hq)
        |(go_at_call 143;(with_reducible refine (must_as _ _ _ _ _ _ _ _ _ HP4.out HM1).mono ?_);rintro e x5 hq;obtain ⟨v,a5,cp5,rfl,hv,hPm,hKm⟩:=hq.yes;obtain rfl:=hv;have HP5:=Lib.hid hPm;have HK5:=Lib.hid (HK4.out.trans hKm);have HZ5:=Lib.hid (HZ4.out.keep hKm (by omega));have HD5:=Lib.hid (HD4.out.keep hKm (by omega));clear hPm hKm hq)
        |(go_at_call 101;refine (whole_as _ _ _ _ _ _ _ HP5.out HPT).mono ?_;rintro e x6 hq;obtain ⟨v,a6,cp6,rfl,hv,hPm,hKm⟩:=hq.yes;obtain ⟨op2,nn2,s2,p2,pl2,pc2,q2,ql2,qc2,o2,k2,kl2,kc2,rfl,hX⟩:=VX.hd hv;have hz5:=HZ5.out.lt;have hd5:=HD5.out.lt;have hdm:=HD5.out.keep hKm (by omega);have j2:=hdm.cell 2 rfl;have j3:=hdm.cell 3 rfl;have j4:=hdm.cell 4 rfl;have j5:=hdm.cell 5 rfl;have j6:=hdm.cell 6 rfl;have j7:=hdm.cell 7 rfl;have j8:=hdm.cell 8 rfl;have jf:=hdm.fz;have hgm:=putAt_grown (w.heap.size+1) x6 2 [.int .i64 op2,.int .i64 nn2,.string s2,.slice p2 pl2 pc2,.slice q2 ql2 qc2,.bool o2,.slice k2 kl2 kc2];have HX6:=Lib.hid (hX.turn (Q:=fun b=>w.heap.size+2≤b) hgm.size (fun b lt hb=>⟨hgm.block b lt (fun e=>by injection e with e;have hb2:_≤b:=hb;omega),by have hb2:_≤b:=hb;omega⟩));have HP6:=Lib.hid (hPm.grown hgm (fun k e=>by cases e;omega));have HK6:=Lib.hid ((HK5.out.trans hKm).grown hgm (fun k e=>by cases e;omega));have HZ6:Hid (Bx (putAt x6 (w.heap.size+1) 2 [.int .i64 op2,.int .i64 nn2,.string s2,.slice p2 pl2 pc2,.slice q2 ql2 qc2,.bool o2,.slice k2 kl2 kc2]) w.heap.size #[.string ⟨#[]⟩,.bool false,.int .i64 0,.int .i64 0,.string ⟨#[]⟩,.slice none 0 0,.slice none 0 0,.bool false,.slice none 0 0] 55):=Lib.hid ((hgm.block _ (HZ5.out.keep hKm (by omega)).lt (fun e=>by injection e with e;omega)).trans (HZ5.out.keep hKm (by omega)));have HD6:Hid (Bx (putAt x6 (w.heap.size+1) 2 [.int .i64 op2,.int .i64 nn2,.string s2,.slice p2 pl2 pc2,.slice q2 ql2 qc2,.bool o2,.slice k2 kl2 kc2]) (w.heap.size+1) #[.string s,.bool false,.int .i64 op2,.int .i64 nn2,.string s2,.slice p2 pl2 pc2,.slice q2 ql2 qc2,.bool o2,.slice k2 kl2 kc2] 55):=Lib.hid (by have:=((((((hdm.set (i:=2) (v:= .int .i64 op2)).set (i:=3) (v:= .int .i64 nn2)).set (i:=4) (v:= .string s2)).set (i:=5) (v:= .slice p2 pl2 pc2)).set (i:=6) (v:= .slice q2 ql2 qc2)).set (i:=7) (v:= .bool o2)).set (i:=8) (v:= .slice k2 kl2 kc2);simp only [List.setIfInBounds_toArray,List.set_cons_succ,List.set_cons_zero] at this;exact this);unfold putAt putAt putAt putAt putAt putAt putAt putAt at HX6 HP6 HK6 HZ6 HD6;dsimp only [Nat.reduceAdd] at HX6 HP6 HK6 HZ6 HD6;clear hdm hgm hX hv hPm hKm hq hz5 hd5)
        |(go_at_call 143;(with_reducible refine (must_as _ _ _ _ _ _ _ _ _ HP6.out HM2).mono ?_);rintro e x7 hq;obtain ⟨v,a7,cp7,rfl,hv,hPm,hKm⟩:=hq.yes;obtain rfl:=hv;clear j2 j3 j4 j5 j6 j7 j8 jf;have HP7:=Lib.hid hPm;have HK7:=Lib.hid (HK6.out.trans hKm);have HX7:=Lib.hid (HX6.out.keep hKm (by omega));have q1:=HZ6.out.keep hKm (by omega);have q2:=HD6.out.keep hKm (by omega);have m0:=q1.cell 0 rfl;have m1:=q1.cell 1 rfl;have m2:=q1.cell 2 rfl;have m3:=q1.cell 3 rfl;have m4:=q1.cell 4 rfl;have m5:=q1.cell 5 rfl;have m6:=q1.cell 6 rfl;have m7:=q1.cell 7 rfl;have m8:=q1.cell 8 rfl;have mf:=q1.fz;have c0:=q2.cell 0 rfl;have c1:=q2.cell 1 rfl;have c2:=q2.cell 2 rfl;have c3:=q2.cell 3 rfl;have c4:=q2.cell 4 rfl;have c5:=q2.cell 5 rfl;have c6:=q2.cell 6 rfl;have c7:=q2.cell 7 rfl;have c8:=q2.cell 8 rfl;clear q1 q2 hPm hKm hq))
       refine bodyPost_ret (v:= .agg #[.string s,.bool false,.int .i64 op2,.int .i64 nn2,.string s2,.slice p2 pl2 pc2,.slice q2 ql2 qc2,.bool o2,.slice k2 kl2 kc2]) (by simp [results,Tryz.results98,go_sem,m0,m1,m2,m3,m4,m5,m6,m7,m8]) rfl ?_
       exact decl_end (x:=x7) ⟨op2,nn2,s2,p2,pl2,pc2,q2,ql2,qc2,o2,k2,kl2,kc2⟩ ⟨false,s,x⟩ HR.out (HX7.out.less (fun b _ hb=>by omega)) HSZ.out HP7.out HK7.out hpl [.string s,.bool false,.int .i64 op2,.int .i64 nn2,.string s2,.slice p2 pl2 pc2,.slice q2 ql2 qc2,.bool o2,.slice k2 kl2 kc2]
  ·cases hq0:nameM E L with
   |bad x y=>
    have HQ:=Lib.hid hq0
    obtain ⟨h1,rfl,rfl⟩:=nameM_bad hq0
    have HR:Hid (R= .bad (pk E L).at_ 21):=Lib.hid (by rw [hR1];unfold decl1;rw [if_neg (by simp [h1])])
    clear hR1 hq0 h1
    generalize (pk E L).at_=at2 at*
    go_enter Tryz.func98,Tryz.ntmps98
    go_wp2_with (first
     |(go_at_call 96;refine (next_as _ _ _ _ _ _ _ _ _ _ _ (H.out.below HB0.out) HTK).mono ?_;rintro e x1 ⟨rfl,hb⟩;have hba:=bl_alloc (o:= .cells #[.int .i64 k,.int .i64 n,.string S,.int .i64 at_] 155) hb;have HP1:=Lib.hid ((H.out.below HB0.out).below hba);have HK1:=Lib.hid ((Keep.of_below (B:=p) HB0.out).trans (.of_below hba));have HZ1:=Lib.hid (HZ0.out.below hba);have HD1:=Lib.hid (HD0.out.below hba);have HP2:=HP1;have HK2:=HK1;have HZ2:=HZ1;have HD2:=HD1;clear hb hba)
     |(go_at_call 142;(with_reducible refine (name_as _ _ _ _ _ _ _ _ HP2.out HQ).mono ?_);rintro e x3 hq;obtain ⟨rfl,hKm⟩:=hq.no;have HK3:=Lib.hid (HK2.out.trans hKm);clear hq hKm))
    exact ⟨rfl,.mkN HR.out HK3.out⟩
   |ok s M=>
    have HQ:=Lib.hid hq0
    obtain ⟨h1,h2,rfl⟩:=nameM_ok hq0
    have HSZ:=Lib.hid (nameM_size (HOK.out) hq0)
    unfold decl1 at hR1
    rw [if_pos h1,h2] at hR1
    obtain ⟨t,T,rfl,_,_⟩:=nameB_cons h1
    rw [List.tail_cons] at hR1
    clear hq0 h1 h2
    cases hm1:must E [58] T with
    |bad x y=>
     have HM1:Hid (must E (ByteArray.toList ⟨#[58]⟩) T= .bad x y):=Lib.hid ((mustL E [58] T).trans hm1)
     have HR:Hid (R= .bad x y):=Lib.hid (by rw [hR1,hm1];rfl)
     clear hR1 hm1
     go_enter Tryz.func98,Tryz.ntmps98
     go_wp2_with (first
      |(go_at_call 96;refine (next_as _ _ _ _ _ _ _ _ _ _ _ (H.out.below HB0.out) HTK).mono ?_;rintro e x1 ⟨rfl,hb⟩;have hba:=bl_alloc (o:= .cells #[.int .i64 k,.int .i64 n,.string S,.int .i64 at_] 155) hb;have HP1:=Lib.hid ((H.out.below HB0.out).below hba);have HK1:=Lib.hid ((Keep.of_below (B:=p) HB0.out).trans (.of_below hba));have HZ1:=Lib.hid (HZ0.out.below hba);have HD1:=Lib.hid (HD0.out.below hba);have HP2:=HP1;have HK2:=HK1;have HZ2:=HZ1;have HD2:=HD1;clear hb hba)
      |(go_at_call 142;(with_reducible refine (name_as _ _ _ _ _ _ _ _ HP2.out HQ).mono ?_);rintro e x3 hq;obtain ⟨v,a3,cp3,rfl,hv,hPm,hKm⟩:=hq.yes;obtain rfl:=hv;have HP3:=Lib.hid hPm;have HK3:=Lib.hid (HK2.out.trans hKm);have HZ3:=Lib.hid (HZ2.out.keep hKm (by omega));have HD3:=Lib.hid (HD2.out.keep hKm (by omega));have hdm:=HD3.out;have j0:=hdm.cell 0 rfl;have jf:=hdm.fz;have hgm:=set_grown1 x3 (w.heap.size+1) 0 (.string s);have HP3':=HP3;have HP3:=Lib.hid (HP3'.out.grown hgm (fun k e=>by cases e;omega));have HK3':=HK3;have HK3:=Lib.hid (HK3'.out.grown hgm (fun k e=>by cases e;omega));have HZ3':=HZ3;have HZ3:=Lib.hid (HZ3'.out.other (c:=w.heap.size+1) (i:=0) (v:= .string s) (by omega));have HD3:Hid (Bx (x3.setCell ⟨w.heap.size+1,0,none⟩ (.string s)) (w.heap.size+1) #[.string s,.bool false,.int .i64 0,.int .i64 0,.string ⟨#[]⟩,.slice none 0 0,.slice none 0 0,.bool false,.slice none 0 0] 55):=Lib.hid (by have:=hdm.set (i:=0) (v:= .string s);simp only [List.setIfInBounds_toArray,List.set_cons_zero] at this;exact this);clear hdm hgm HP3' HK3' HZ3';clear hPm hKm hq)
      |(go_at_call 141;(with_reducible refine (pass_any _ _ _ _ _ _ _ _ HP3.out).mono ?_);rintro e x4 hq;obtain ⟨v,a4,cp4,rfl,hv,hPm,hKm⟩:=hq.yes;obtain rfl:=hv;have HP4:=Lib.hid hPm;have HK4:=Lib.hid (HK3.out.trans hKm);have HZ4:=Lib.hid (HZ3.out.keep hKm (by omega));have HD4:=Lib.hid (HD3.out.keep hKm (by omega));clear j0 jf;clear hPm hKm hq)
      |(go_at_call 143;(with_reducible refine (must_as _ _ _ _ _ _ _ _ _ HP4.out HM1).mono ?_);rintro e x5 hq;obtain ⟨rfl,hKm⟩:=hq.no;have HK5:=Lib.hid (HK4.out.trans hKm);clear hq hKm))
     exact ⟨rfl,.mkN HR.out HK5.out⟩
    |ok u T2=>
     have HM1:Hid (must E (ByteArray.toList ⟨#[58]⟩) T= .ok u T2):=Lib.hid ((mustL E [58] T).trans hm1)
     rw [hm1] at hR1
     dsimp only [Res.bind] at hR1
     clear hm1
     cases hp:wholeM E T2 with
     |bad x y=>
      have HPT:=Lib.hid hp
      have HR:Hid (R= .bad x y):=Lib.hid (by rw [hR1,hp])
      clear hR1 hp
      go_enter Tryz.func98,Tryz.ntmps98
      go_wp2_with (first
       |(go_at_call 96;refine (next_as _ _ _ _ _ _ _ _ _ _ _ (H.out.below HB0.out) HTK).mono ?_;rintro e x1 ⟨rfl,hb⟩;have hba:=bl_alloc (o:= .cells #[.int .i64 k,.int .i64 n,.string S,.int .i64 at_] 155) hb;have HP1:=Lib.hid ((H.out.below HB0.out).below hba);have HK1:=Lib.hid ((Keep.of_below (B:=p) HB0.out).trans (.of_below hba));have HZ1:=Lib.hid (HZ0.out.below hba);have HD1:=Lib.hid (HD0.out.below hba);have HP2:=HP1;have HK2:=HK1;have HZ2:=HZ1;have HD2:=HD1;clear hb hba)
       |(go_at_call 142;(with_reducible refine (name_as _ _ _ _ _ _ _ _ HP2.out HQ).mono ?_);rintro e x3 hq;obtain ⟨v,a3,cp3,rfl,hv,hPm,hKm⟩:=hq.yes;obtain rfl:=hv;have HP3:=Lib.hid hPm;have HK3:=Lib.hid (HK2.out.trans hKm);have HZ3:=Lib.hid (HZ2.out.keep hKm (by omega));have HD3:=Lib.hid (HD2.out.keep hKm (by omega));have hdm:=HD3.out;have j0:=hdm.cell 0 rfl;have jf:=hdm.fz;have hgm:=set_grown1 x3 (w.heap.size+1) 0 (.string s);have HP3':=HP3;have HP3:=Lib.hid (HP3'.out.grown hgm (fun k e=>by cases e;omega));have HK3':=HK3;have HK3:=Lib.hid (HK3'.out.grown hgm (fun k e=>by cases e;omega));have HZ3':=HZ3;have HZ3:=Lib.hid (HZ3'.out.other (c:=w.heap.size+1) (i:=0) (v:= .string s) (by omega));have HD3:Hid (Bx (x3.setCell ⟨w.heap.size+1,0,none⟩ (.string s)) (w.heap.size+1) #[.string s,.bool false,.int .i64 0,.int .i64 0,.string ⟨#[]⟩,.slice none 0 0,.slice none 0 0,.bool false,.slice none 0 0] 55):=Lib.hid (by have:=hdm.set (i:=0) (v:= .string s);simp only [List.setIfInBounds_toArray,List.set_cons_zero] at this;exact this);clear hdm hgm HP3' HK3' HZ3';clear hPm hKm hq)
       |(go_at_call 141;(with_reducible refine (pass_any _ _ _ _ _ _ _ _ HP3.out).mono ?_);rintro e x4 hq;obtain ⟨v,a4,cp4,rfl,hv,hPm,hKm⟩:=hq.yes;obtain rfl:=hv;have HP4:=Lib.hid hPm;have HK4:=Lib.hid (HK3.out.trans hKm);have HZ4:=Lib.hid (HZ3.out.keep hKm (by omega));have HD4:=Lib.hid (HD3.out.keep hKm (by omega));clear j0 jf;clear hPm hKm hq)
       |(go_at_call 143;(with_reducible refine (must_as _ _ _ _ _ _ _ _ _ HP4.out HM1).mono ?_);rintro e x5 hq;obtain ⟨v,a5,cp5,rfl,hv,hPm,hKm⟩:=hq.yes;obtain rfl:=hv;have HP5:=Lib.hid hPm;have HK5:=Lib.hid (HK4.out.trans hKm);have HZ5:=Lib.hid (HZ4.out.keep hKm (by omega));have HD5:=Lib.hid (HD4.out.keep hKm (by omega));clear hPm hKm hq)
       |(go_at_call 101;refine (whole_as _ _ _ _ _ _ _ HP5.out HPT).mono ?_;rintro e x6 hq;obtain ⟨rfl,hKm⟩:=hq.no;have HK6:=Lib.hid (HK5.out.trans hKm);clear hq hKm))
      exact ⟨rfl,.mkN HR.out HK6.out⟩
     |ok x T3=>
      have HPT:=Lib.hid hp
      rw [hp] at hR1
      dsimp only at hR1
      clear hp
      cases hm2:must E [59] T3 with
      |bad y z=>
       have HM2:Hid (must E (ByteArray.toList ⟨#[59]⟩) T3= .bad y z):=Lib.hid ((mustL E [59] T3).trans hm2)
       have HR:Hid (R= .bad y z):=Lib.hid (by rw [hR1,hm2])
       clear hR1 hm2
       go_enter Tryz.func98,Tryz.ntmps98
       go_wp2_with (first
        |(go_at_call 96;refine (next_as _ _ _ _ _ _ _ _ _ _ _ (H.out.below HB0.out) HTK).mono ?_;rintro e x1 ⟨rfl,hb⟩;have hba:=bl_alloc (o:= .cells #[.int .i64 k,.int .i64 n,.string S,.int .i64 at_] 155) hb;have HP1:=Lib.hid ((H.out.below HB0.out).below hba);have HK1:=Lib.hid ((Keep.of_below (B:=p) HB0.out).trans (.of_below hba));have HZ1:=Lib.hid (HZ0.out.below hba);have HD1:=Lib.hid (HD0.out.below hba);have HP2:=HP1;have HK2:=HK1;have HZ2:=HZ1;have HD2:=HD1;clear hb hba)
        |(go_at_call 142;(with_reducible refine (name_as _ _ _ _ _ _ _ _ HP2.out HQ).mono ?_);rintro e x3 hq;obtain ⟨v,a3,cp3,rfl,hv,hPm,hKm⟩:=hq.yes;obtain rfl:=hv;have HP3:=Lib.hid hPm;have HK3:=Lib.hid (HK2.out.trans hKm);have HZ3:=Lib.hid (HZ2.out.keep hKm (by omega));have HD3:=Lib.hid (HD2.out.keep hKm (by omega));have hdm:=HD3.out;have j0:=hdm.cell 0 rfl;have jf:=hdm.fz;have hgm:=set_grown1 x3 (w.heap.size+1) 0 (.string s);have HP3':=HP3;have HP3:=Lib.hid (HP3'.out.grown hgm (fun k e=>by cases e;omega));have HK3':=HK3;have HK3:=Lib.hid (HK3'.out.grown hgm (fun k e=>by cases e;omega));have HZ3':=HZ3;have HZ3:=Lib.hid (HZ3'.out.other (c:=w.heap.size+1) (i:=0) (v:= .string s) (by omega));have HD3:Hid (Bx (x3.setCell ⟨w.heap.size+1,0,none⟩ (.string s)) (w.heap.size+1) #[.string s,.bool false,.int .i64 0,.int .i64 0,.string ⟨#[]⟩,.slice none 0 0,.slice none 0 0,.bool false,.slice none 0 0] 55):=Lib.hid (by have:=hdm.set (i:=0) (v:= .string s);simp only [List.setIfInBounds_toArray,List.set_cons_zero] at this;exact this);clear hdm hgm HP3' HK3' HZ3';clear hPm hKm hq)
        |(go_at_call 141;(with_reducible refine (pass_any _ _ _ _ _ _ _ _ HP3.out).mono ?_);rintro e x4 hq;obtain ⟨v,a4,cp4,rfl,hv,hPm,hKm⟩:=hq.yes;obtain rfl:=hv;have HP4:=Lib.hid hPm;have HK4:=Lib.hid (HK3.out.trans hKm);have HZ4:=Lib.hid (HZ3.out.keep hKm (by omega));have HD4:=Lib.hid (HD3.out.keep hKm (by omega));clear j0 jf;clear hPm hKm hq)
        |(go_at_call 143;(with_reducible refine (must_as _ _ _ _ _ _ _ _ _ HP4.out HM1).mono ?_);rintro e x5 hq;obtain ⟨v,a5,cp5,rfl,hv,hPm,hKm⟩:=hq.yes;obtain rfl:=hv;have HP5:=Lib.hid hPm;have HK5:=Lib.hid (HK4.out.trans hKm);have HZ5:=Lib.hid (HZ4.out.keep hKm (by omega));have HD5:=Lib.hid (HD4.out.keep hKm (by omega));clear hPm hKm hq)
        |(go_at_call 101;refine (whole_as _ _ _ _ _ _ _ HP5.out HPT).mono ?_;rintro e x6 hq;obtain ⟨v,a6,cp6,rfl,hv,hPm,hKm⟩:=hq.yes;obtain ⟨op2,nn2,s2,p2,pl2,pc2,q2,ql2,qc2,o2,k2,kl2,kc2,rfl,hX⟩:=VX.hd hv;have hz5:=HZ5.out.lt;have hd5:=HD5.out.lt;have hdm:=HD5.out.keep hKm (by omega);have j2:=hdm.cell 2 rfl;have j3:=hdm.cell 3 rfl;have j4:=hdm.cell 4 rfl;have j5:=hdm.cell 5 rfl;have j6:=hdm.cell 6 rfl;have j7:=hdm.cell 7 rfl;have j8:=hdm.cell 8 rfl;have jf:=hdm.fz;have hgm:=putAt_grown (w.heap.size+1) x6 2 [.int .i64 op2,.int .i64 nn2,.string s2,.slice p2 pl2 pc2,.slice q2 ql2 qc2,.bool o2,.slice k2 kl2 kc2];have HX6:=Lib.hid (hX.turn (Q:=fun b=>w.heap.size+2≤b) hgm.size (fun b lt hb=>⟨hgm.block b lt (fun e=>by injection e with e;have hb2:_≤b:=hb;omega),by have hb2:_≤b:=hb;omega⟩));have HP6:=Lib.hid (hPm.grown hgm (fun k e=>by cases e;omega));have HK6:=Lib.hid ((HK5.out.trans hKm).grown hgm (fun k e=>by cases e;omega));have HZ6:Hid (Bx (putAt x6 (w.heap.size+1) 2 [.int .i64 op2,.int .i64 nn2,.string s2,.slice p2 pl2 pc2,.slice q2 ql2 qc2,.bool o2,.slice k2 kl2 kc2]) w.heap.size #[.string ⟨#[]⟩,.bool false,.int .i64 0,.int .i64 0,.string ⟨#[]⟩,.slice none 0 0,.slice none 0 0,.bool false,.slice none 0 0] 55):=Lib.hid ((hgm.block _ (HZ5.out.keep hKm (by omega)).lt (fun e=>by injection e with e;omega)).trans (HZ5.out.keep hKm (by omega)));have HD6:Hid (Bx (putAt x6 (w.heap.size+1) 2 [.int .i64 op2,.int .i64 nn2,.string s2,.slice p2 pl2 pc2,.slice q2 ql2 qc2,.bool o2,.slice k2 kl2 kc2]) (w.heap.size+1) #[.string s,.bool false,.int .i64 op2,.int .i64 nn2,.string s2,.slice p2 pl2 pc2,.slice q2 ql2 qc2,.bool o2,.slice k2 kl2 kc2] 55):=Lib.hid (by have:=((((((hdm.set (i:=2) (v:= .int .i64 op2)).set (i:=3) (v:= .int .i64 nn2)).set (i:=4) (v:= .string s2)).set (i:=5) (v:= .slice p2 pl2 pc2)).set (i:=6) (v:= .slice q2 ql2 qc2)).set (i:=7) (v:= .bool o2)).set (i:=8) (v:= .slice k2 kl2 kc2);simp only [List.setIfInBounds_toArray,List.set_cons_succ,List.set_cons_zero] at this;exact this);unfold putAt putAt putAt putAt putAt putAt putAt putAt at HX6 HP6 HK6 HZ6 HD6;dsimp only [Nat.reduceAdd] at HX6 HP6 HK6 HZ6 HD6;clear hdm hgm hX hv hPm hKm hq hz5 hd5)
        |(go_at_call 143;(with_reducible refine (must_as _ _ _ _ _ _ _ _ _ HP6.out HM2).mono ?_);rintro e x7 hq;obtain ⟨rfl,hKm⟩:=hq.no;have HK7:=Lib.hid (HK6.out.trans hKm);clear hq hKm))
       exact ⟨rfl,.mkN HR.out HK7.out⟩
      |ok u2 T4=>
       have HM2:Hid (must E (ByteArray.toList ⟨#[59]⟩) T3= .ok u2 T4):=Lib.hid ((mustL E [59] T3).trans hm2)
       have HR:Hid (R= .ok ⟨false,s,x⟩ T4):=Lib.hid (by rw [hR1,hm2])
       clear hR1 hm2
       go_enter Tryz.func98,Tryz.ntmps98
       go_wp2_with (first
        |(go_at_call 96;refine (next_as _ _ _ _ _ _ _ _ _ _ _ (H.out.below HB0.out) HTK).mono ?_;rintro e x1 ⟨rfl,hb⟩;have hba:=bl_alloc (o:= .cells #[.int .i64 k,.int .i64 n,.string S,.int .i64 at_] 155) hb;have HP1:=Lib.hid ((H.out.below HB0.out).below hba);have HK1:=Lib.hid ((Keep.of_below (B:=p) HB0.out).trans (.of_below hba));have HZ1:=Lib.hid (HZ0.out.below hba);have HD1:=Lib.hid (HD0.out.below hba);have HP2:=HP1;have HK2:=HK1;have HZ2:=HZ1;have HD2:=HD1;clear hb hba)
        |(go_at_call 142;(with_reducible refine (name_as _ _ _ _ _ _ _ _ HP2.out HQ).mono ?_);rintro e x3 hq;obtain ⟨v,a3,cp3,rfl,hv,hPm,hKm⟩:=hq.yes;obtain rfl:=hv;have HP3:=Lib.hid hPm;have HK3:=Lib.hid (HK2.out.trans hKm);have HZ3:=Lib.hid (HZ2.out.keep hKm (by omega));have HD3:=Lib.hid (HD2.out.keep hKm (by omega));have hdm:=HD3.out;have j0:=hdm.cell 0 rfl;have jf:=hdm.fz;have hgm:=set_grown1 x3 (w.heap.size+1) 0 (.string s);have HP3':=HP3;have HP3:=Lib.hid (HP3'.out.grown hgm (fun k e=>by cases e;omega));have HK3':=HK3;have HK3:=Lib.hid (HK3'.out.grown hgm (fun k e=>by cases e;omega));have HZ3':=HZ3;have HZ3:=Lib.hid (HZ3'.out.other (c:=w.heap.size+1) (i:=0) (v:= .string s) (by omega));have HD3:Hid (Bx (x3.setCell ⟨w.heap.size+1,0,none⟩ (.string s)) (w.heap.size+1) #[.string s,.bool false,.int .i64 0,.int .i64 0,.string ⟨#[]⟩,.slice none 0 0,.slice none 0 0,.bool false,.slice none 0 0] 55):=Lib.hid (by have:=hdm.set (i:=0) (v:= .string s);simp only [List.setIfInBounds_toArray,List.set_cons_zero] at this;exact this);clear hdm hgm HP3' HK3' HZ3';clear hPm hKm hq)
        |(go_at_call 141;(with_reducible refine (pass_any _ _ _ _ _ _ _ _ HP3.out).mono ?_);rintro e x4 hq;obtain ⟨v,a4,cp4,rfl,hv,hPm,hKm⟩:=hq.yes;obtain rfl:=hv;have HP4:=Lib.hid hPm;have HK4:=Lib.hid (HK3.out.trans hKm);have HZ4:=Lib.hid (HZ3.out.keep hKm (by omega));have HD4:=Lib.hid (HD3.out.keep hKm (by omega));clear j0 jf;clear hPm hKm hq)
        |(go_at_call 143;(with_reducible refine (must_as _ _ _ _ _ _ _ _ _ HP4.out HM1).mono ?_);rintro e x5 hq;obtain ⟨v,a5,cp5,rfl,hv,hPm,hKm⟩:=hq.yes;obtain rfl:=hv;have HP5:=Lib.hid hPm;have HK5:=Lib.hid (HK4.out.trans hKm);have HZ5:=Lib.hid (HZ4.out.keep hKm (by omega));have HD5:=Lib.hid (HD4.out.keep hKm (by omega));clear hPm hKm hq)
        |(go_at_call 101;refine (whole_as _ _ _ _ _ _ _ HP5.out HPT).mono ?_;rintro e x6 hq;obtain ⟨v,a6,cp6,rfl,hv,hPm,hKm⟩:=hq.yes;obtain ⟨op2,nn2,s2,p2,pl2,pc2,q2,ql2,qc2,o2,k2,kl2,kc2,rfl,hX⟩:=VX.hd hv;have hz5:=HZ5.out.lt;have hd5:=HD5.out.lt;have hdm:=HD5.out.keep hKm (by omega);have j2:=hdm.cell 2 rfl;have j3:=hdm.cell 3 rfl;have j4:=hdm.cell 4 rfl;have j5:=hdm.cell 5 rfl;have j6:=hdm.cell 6 rfl;have j7:=hdm.cell 7 rfl;have j8:=hdm.cell 8 rfl;have jf:=hdm.fz;have hgm:=putAt_grown (w.heap.size+1) x6 2 [.int .i64 op2,.int .i64 nn2,.string s2,.slice p2 pl2 pc2,.slice q2 ql2 qc2,.bool o2,.slice k2 kl2 kc2];have HX6:=Lib.hid (hX.turn (Q:=fun b=>w.heap.size+2≤b) hgm.size (fun b lt hb=>⟨hgm.block b lt (fun e=>by injection e with e;have hb2:_≤b:=hb;omega),by have hb2:_≤b:=hb;omega⟩));have HP6:=Lib.hid (hPm.grown hgm (fun k e=>by cases e;omega));have HK6:=Lib.hid ((HK5.out.trans hKm).grown hgm (fun k e=>by cases e;omega));have HZ6:Hid (Bx (putAt x6 (w.heap.size+1) 2 [.int .i64 op2,.int .i64 nn2,.string s2,.slice p2 pl2 pc2,.slice q2 ql2 qc2,.bool o2,.slice k2 kl2 kc2]) w.heap.size #[.string ⟨#[]⟩,.bool false,.int .i64 0,.int .i64 0,.string ⟨#[]⟩,.slice none 0 0,.slice none 0 0,.bool false,.slice none 0 0] 55):=Lib.hid ((hgm.block _ (HZ5.out.keep hKm (by omega)).lt (fun e=>by injection e with e;omega)).trans (HZ5.out.keep hKm (by omega)));have HD6:Hid (Bx (putAt x6 (w.heap.size+1) 2 [.int .i64 op2,.int .i64 nn2,.string s2,.slice p2 pl2 pc2,.slice q2 ql2 qc2,.bool o2,.slice k2 kl2 kc2]) (w.heap.size+1) #[.string s,.bool false,.int .i64 op2,.int .i64 nn2,.string s2,.slice p2 pl2 pc2,.slice q2 ql2 qc2,.bool o2,.slice k2 kl2 kc2] 55):=Lib.hid (by have:=((((((hdm.set (i:=2) (v:= .int .i64 op2)).set (i:=3) (v:= .int .i64 nn2)).set (i:=4) (v:= .string s2)).set (i:=5) (v:= .slice p2 pl2 pc2)).set (i:=6) (v:= .slice q2 ql2 qc2)).set (i:=7) (v:= .bool o2)).set (i:=8) (v:= .slice k2 kl2 kc2);simp only [List.setIfInBounds_toArray,List.set_cons_succ,List.set_cons_zero] at this;exact this);unfold putAt putAt putAt putAt putAt putAt putAt putAt at HX6 HP6 HK6 HZ6 HD6;dsimp only [Nat.reduceAdd] at HX6 HP6 HK6 HZ6 HD6;clear hdm hgm hX hv hPm hKm hq hz5 hd5)
        |(go_at_call 143;(with_reducible refine (must_as _ _ _ _ _ _ _ _ _ HP6.out HM2).mono ?_);rintro e x7 hq;obtain ⟨v,a7,cp7,rfl,hv,hPm,hKm⟩:=hq.yes;obtain rfl:=hv;clear j2 j3 j4 j5 j6 j7 j8 jf;have HP7:=Lib.hid hPm;have HK7:=Lib.hid (HK6.out.trans hKm);have HX7:=Lib.hid (HX6.out.keep hKm (by omega));have q1:=HZ6.out.keep hKm (by omega);have q2:=HD6.out.keep hKm (by omega);have m0:=q1.cell 0 rfl;have m1:=q1.cell 1 rfl;have m2:=q1.cell 2 rfl;have m3:=q1.cell 3 rfl;have m4:=q1.cell 4 rfl;have m5:=q1.cell 5 rfl;have m6:=q1.cell 6 rfl;have m7:=q1.cell 7 rfl;have m8:=q1.cell 8 rfl;have mf:=q1.fz;have c0:=q2.cell 0 rfl;have c1:=q2.cell 1 rfl;have c2:=q2.cell 2 rfl;have c3:=q2.cell 3 rfl;have c4:=q2.cell 4 rfl;have c5:=q2.cell 5 rfl;have c6:=q2.cell 6 rfl;have c7:=q2.cell 7 rfl;have c8:=q2.cell 8 rfl;clear q1 q2 hPm hKm hq))
       refine bodyPost_ret (v:= .agg #[.string s,.bool false,.int .i64 op2,.int .i64 nn2,.string s2,.slice p2 pl2 pc2,.slice q2 ql2 qc2,.bool o2,.slice k2 kl2 kc2]) (by simp [results,Tryz.results98,go_sem,m0,m1,m2,m3,m4,m5,m6,m7,m8]) rfl ?_
       exact decl_end (x:=x7) ⟨op2,nn2,s2,p2,pl2,pc2,q2,ql2,qc2,o2,k2,kl2,kc2⟩ ⟨false,s,x⟩ HR.out (HX7.out.less (fun b _ hb=>by omega)) HSZ.out HP7.out HK7.out hpl [.string s,.bool false,.int .i64 op2,.int .i64 nn2,.string s2,.slice p2 pl2 pc2,.slice q2 ql2 qc2,.bool o2,.slice k2 kl2 kc2]
end Go.Proofs.YtkfihhagcimcmaaGreatDoor.Ps
namespace Go.Proofs.YtkfihhagcimcmaaGreatDoor.Ps
open Go.RowKit
open Lx (Tok bl_alloc)
abbrev DX:=Hd×De
def DX.cells (y:DX):List Value:= .string y.2.nm:: .bool y.2.r::y.1.vals.toList
def dcells (L:List DX):List Value:=(L.map DX.cells).flatten
theorem dcells_snoc (L:List DX) (y:DX):dcells (L++[y])=dcells L++y.cells:=by simp [dcells]
def ElsD (B:Nat) (v:Value) (L:List DX) (w:World):Prop:=∀y∈L,XB (fun b=>B≤b∧v.ownBlock≠some b) w y.1 y.2.x
theorem ElsD.keep {B p:Nat} {v:Value} {L:List DX} {w w':World} (h:ElsD B v L w) (hk:Keep p w w') (hp:p<B):ElsD B v L w':=fun y hy=>(h y hy).keep hk (fun e=>by omega)
theorem ElsD.below {B:Nat} {v:Value} {L:List DX} {w w':World} (h:ElsD B v L w) (hb:Below w.heap.size w w'):ElsD B v L w':=fun y hy=>(h y hy).below hb
theorem ElsD.app {B:Nat} {v v':Value} {L:List DX} {y:DX} {w w0 w':World} (h:ElsD B v L w) (hy:XB (fun b=>B≤b∧v.ownBlock≠some b) w y.1 y.2.x) (hz:w.heap.size≤w0.heap.size) (h0:Below w.heap.size w w0) (hg:w0.grownBy w' v.ownBlock) (hv:v'.ownBlock=v.ownBlock∨v'.ownBlock=some w0.heap.size):ElsD B v' (L++[y]) w':=by
 have key:∀z:DX,XB (fun b=>B≤b∧v.ownBlock≠some b) w z.1 z.2.x→XB (fun b=>B≤b∧v'.ownBlock≠some b) w' z.1 z.2.x:=fun z hz2=>hz2.turn (Nat.le_trans hz hg.size) fun b lt hb=>⟨(hg.block b (by omega) (fun e=>hb.2 e.symm)).trans (h0.block b lt),hb.1,fun e=>by
  rcases hv with hv|hv
  ·exact hb.2 (hv.symm.trans e)
  ·rw [hv] at e;injection e with e;omega⟩
 intro z hz2
 rcases List.mem_append.1 hz2 with h1|h1
 ·exact key z (h z h1)
 ·rw [List.mem_singleton.1 h1];exact key y hy
theorem own_sliceD {w:World} {base n:Nat} {v:Value} {xs:List Value} (h:w.ownsRow base 55 9 v n xs):∃a c,v= .slice a n c:=by
 rcases h.2 with ⟨rfl,rfl⟩|⟨g,cap,cur,rfl,_⟩
 ·exact ⟨none,0,rfl⟩
 ·exact ⟨_,cap,rfl⟩
def VL (B:Nat) (w:World) (l:List De) (v:Value):Prop:=∃L:List DX,L.map (·.2)=l∧L.length≤256∧w.ownsRow B 55 9 v L.length (dcells L)∧ElsD B v L w∧∀y∈L,y.2.nm.size≤4096
theorem VD.hd {B:Nat} {w:World} {d:De} {v:Value} (h:VD B w d v):∃op n s p pl pc q ql qc o k kl kc,v= .agg #[.string d.nm,.bool d.r,.int .i64 op,.int .i64 n,.string s,.slice p pl pc,.slice q ql qc,.bool o,.slice k kl kc]∧XB (fun b=>B≤b) w ⟨op,n,s,p,pl,pc,q,ql,qc,o,k,kl,kc⟩ d.x∧d.nm.size≤4096:=by
 obtain ⟨⟨op,n,s,p,pl,pc,q,ql,qc,o,k,kl,kc⟩,h1,h2,h3⟩:=h
 exact ⟨op,n,s,p,pl,pc,q,ql,qc,o,k,kl,kc,h1,h2,h3⟩
def FileAt (E:Int) (R:Res (List De)) (acc:List De) (M:List Tok):Prop:=∃g,M.length<g∧fileF E g acc M=R
section
variable {E:Int} {R:Res (List De)} {acc:List De} {M:List Tok} (h:FileAt E R acc M)
include h
theorem FileAt.last (h0:M.length=0):R= .ok acc M:=by
 obtain ⟨g,hg,h⟩:=h
 cases g with
 |zero=>omega
 |succ g=>rw [fileF,if_pos h0] at h;exact h.symm
theorem FileAt.full (h0:¬M.length=0) (h256:acc.length=256):R= .bad (pk E M).at_ 4:=by
 obtain ⟨g,hg,h⟩:=h
 cases g with
 |zero=>omega
 |succ g=>rw [fileF,if_neg h0,if_pos h256] at h;exact h.symm
theorem FileAt.bad {a x:Int} (h0:¬M.length=0) (h256:¬acc.length=256) (hp:declM E M= .bad a x):R= .bad a x:=by
 obtain ⟨g,hg,h⟩:=h
 cases g with
 |zero=>omega
 |succ g=>rw [fileF,if_neg h0,if_neg h256,hp] at h;exact h.symm
theorem FileAt.step {d:De} {M':List Tok} (h0:¬M.length=0) (h256:¬acc.length=256) (hp:declM E M= .ok d M'):FileAt E R (acc++[d]) M'∧M'<:+M∧M'.length<M.length:=by
 obtain ⟨g,hg,h⟩:=h
 cases g with
 |zero=>omega
 |succ g=>
  rw [fileF,if_neg h0,if_neg h256,hp] at h
  obtain ⟨s1,c1⟩:=decl_fits E M _ _ hp
  have:=cnt_pos d.x
  dsimp only at c1
  exact ⟨⟨g,by omega,h⟩,s1,by omega⟩
end
theorem info55:(Tryz.prog.info? 55).map (fun i=>(i.zero,i.size,i.bytes))=some (some (.agg #[.string ByteArray.empty,.bool false,.int .i64 0,.int .i64 0,.string ByteArray.empty,.slice none 0 0,.slice none 0 0,.bool false,.slice none 0 0]),9,136):=by kernel_rfl
theorem decl_as (w:World) (p cap:Nat) (a:Option Addr) (L:List Tok) (E:Int) (r:Res De) (h:Prs w p a cap L E 0) (hr:Hid (declM E L=r)):Calls Tryz.prog 98 #[.pointer (some ⟨p,0,none⟩)] w (PostR (VD w.heap.size) w p E 0 r):=by rw [←hr.out];exact decl_any w p cap a L E h
set_option maxRecDepth 100000 in
set_option maxHeartbeats 8000000 in
theorem file_any (w:World) (p cap:Nat) (a:Option Addr) (L:List Tok) (E:Int) (h:Prs w p a cap L E 0):Calls Tryz.prog 53 #[.pointer (some ⟨p,0,none⟩)] w (PostR (VL w.heap.size) w p E 0 (fileF E (L.length+1) [] L)):=by
 obtain ⟨R,hR⟩:∃R,fileF E (L.length+1) [] L=R:=⟨_,rfl⟩
 rw [hR]
 have HA:Hid (FileAt E R (([]:List DX).map (·.2)) L):=Lib.hid ⟨L.length+1,by omega,hR⟩
 have H:=Lib.hid h
 have hpl:=h.lt
 have HFK:=field_k
 obtain ⟨i0,hi,hz0,hz1,hz2⟩:=info_parts info55
 have HI:=Lib.hid hi
 have HI0:=Lib.hid hz0
 have HI1:=Lib.hid hz1
 have HI2:=Lib.hid hz2
 clear hi hz0 hz1 hz2 hR h
 go_enter Tryz.func53,Tryz.ntmps53
 go_wp2_with fail
 go_loopw [3] (fun v wr=>∃(LL:List DX) (M:List Tok) (a':Option Addr) (cp:Nat),LL.length≤256∧Hid (FileAt E R (LL.map (·.2)) M)∧Hid (wr.ownsRow w.heap.size 55 9 v LL.length (dcells LL))∧Hid (ElsD w.heap.size v LL wr)∧Hid (∀y∈LL,y.2.nm.size≤4096)∧Hid (Prs wr p a' cp M E 0)∧Hid (Keep p w wr)) (fun _ wr=>leftN wr p)
 case atStart=>exact ⟨[],L,a,cap,by decide,HA,Lib.hid (World.ownsRow_nil _ _ _ _),Lib.hid (fun y hy=>absurd hy (by simp)),Lib.hid (fun y hy=>absurd hy (by simp)),H,Lib.hid (Keep.refl _ _)⟩
 case round=>
  obtain ⟨LL,M,a',cp,h256,hA,hO,hE,hZ,hP,hK⟩:=hrel
  rename World=>wr
  obtain ⟨ra,rc,rfl⟩:=own_sliceD hO.out
  have hkm:(LL.map (·.2)).length=LL.length:=List.length_map ..
  obtain ⟨k,n,at_,S,ht⟩:=pk_get E M
  have HT:=Lib.hid ht
  have hend:=pk_end hP.out.ok E
  rw [ht] at hend
  dsimp only at hend
  by_cases hk:k=0
  ·have HR:=Lib.hid (hA.out.last (hend.1 hk))
   subst hk
   clear hend ht hA
   go_wp2_with (go_at_call 96;refine (next_as _ _ _ _ _ _ _ _ _ _ _ hP.out HT).mono ?_;rintro e x1 ⟨rfl,hb⟩;have HP1:=Lib.hid (hP.out.below hb);have HK1:=Lib.hid (hK.out.trans (.of_below hb));have HO1:=Lib.hid (hO.out.kept (grown_below hb) (by cases Value.ownBlock _<;>simp));have HE1:=Lib.hid (hE.out.below hb);clear hb)
   go_ret
   exact .mkY HR.out ⟨LL,rfl,h256,HO1.out,HE1.out,hZ.out⟩ HP1.out HK1.out
  ·have hk2:(k !=0)=true:=by simpa using hk
   have h0:¬M.length=0:=fun e=>hk (hend.2 e)
   have HX:Hid ((pk E M).at_=at_):=Lib.hid (by rw [ht])
   clear hend hk
   by_cases hf:LL.length=256
   ·have HR:=Lib.hid (hA.out.full h0 (hkm.trans hf))
    rw [show (pk E M).at_=at_ by rw [ht]] at HR
    have hn:((LL.length:Int)==256)=true:=by rw [hf];rfl
    clear hA hf h0 ht
    go_wp2_with (first
     |(go_at_call 96;refine (next_as _ _ _ _ _ _ _ _ _ _ _ hP.out HT).mono ?_;rintro e x1 ⟨rfl,hb⟩;have HP1:=Lib.hid (hP.out.below hb);have HK1:=Lib.hid (hK.out.trans (.of_below hb));clear hb)
     |(go_at_call 97;refine (fault_as _ _ _ _ _ _ _ _ _ HP1.out HX).mono ?_;rintro e x2 ⟨rfl,hb⟩;have HK2:=Lib.hid (HK1.out.trans (.of_below hb));clear hb))
    exact ⟨rfl,.mkN HR.out HK2.out⟩
   ·have hn:((LL.length:Int)==256)=false:=by simp;omega
    cases hp:declM E M with
    |bad x y=>
     have HPT:=Lib.hid hp
     have HR:=Lib.hid (hA.out.bad h0 (by rw [hkm];exact hf) hp)
     clear hA hf h0 ht hp
     go_wp2_with (first
      |(go_at_call 96;refine (next_as _ _ _ _ _ _ _ _ _ _ _ hP.out HT).mono ?_;rintro e x1 ⟨rfl,hb⟩;have HP1:=Lib.hid (hP.out.below hb);have HK1:=Lib.hid (hK.out.trans (.of_below hb));clear hb)
      |(go_at_call 98;refine (decl_as _ _ _ _ _ _ _ HP1.out HPT).mono ?_;rintro e x2 hq;obtain ⟨rfl,hKm⟩:=hq.no;have HK2:=Lib.hid (HK1.out.trans hKm);clear hq hKm))
     exact ⟨rfl,.mkN HR.out HK2.out⟩
    |ok d M'=>
     obtain ⟨r,nm,x⟩:=d
     have HPT:=Lib.hid hp
     obtain ⟨hA',hs',hl'⟩:=hA.out.step h0 (by rw [hkm];exact hf) hp
     have HA':Hid (∀y:Hd,FileAt E R ((LL++[((y,⟨r,nm,x⟩):DX)]).map (·.2)) M'):=Lib.hid (fun y=>by rw [List.map_append];exact hA')
     have HL':=Lib.hid hl'
     clear hA h0 ht hp hA' hs' hl'
     go_wp2_with (first
      |(go_at_call 96;refine (next_as _ _ _ _ _ _ _ _ _ _ _ hP.out HT).mono ?_;rintro e x1 ⟨rfl,hb⟩;have HP1:=Lib.hid (hP.out.below hb);have HK1:=Lib.hid (hK.out.trans (.of_below hb));have HO1:=Lib.hid (hO.out.kept (grown_below hb) (by cases Value.ownBlock _<;>simp));have HE1:=Lib.hid (hE.out.below hb);clear hb)
      |(go_at_call 98;refine (decl_as _ _ _ _ _ _ _ HP1.out HPT).mono ?_;rintro e x2 hq;obtain ⟨v,a2,cp2,rfl,hv,hPm,hKm⟩:=hq.yes;obtain ⟨op2,nn2,s2,p2,pl2,pc2,q2,ql2,qc2,o2,k2,kl2,kc2,rfl,hX,hs2⟩:=hv.hd;have HS2:=Lib.hid hs2;have HXN:=Lib.hid (hX.less (Q:=fun b=>w.heap.size≤b∧(Value.slice ra LL.length rc).ownBlock≠some b) (fun b lt hb=>⟨by have h1:=HK1.out.size;have hb2:_≤b:=hb;omega,fun e=>by have h1:=lt_own HO1.out e;have hb2:_≤b:=hb;omega⟩));have HP2:=Lib.hid hPm;have HO2:=Lib.hid (owns_keep HO1.out hKm (by omega));have HE2:=Lib.hid (HE1.out.keep hKm (by omega));have HK2:=Lib.hid (HK1.out.trans hKm);have HBR:=Lib.hid (bl_alloc (o:= .cells #[.string nm,.bool r,.int .i64 op2,.int .i64 nn2,.string s2,.slice p2 pl2 pc2,.slice q2 ql2 qc2,.bool o2,.slice k2 kl2 kc2] 55) (Below.refl x2.heap.size x2));have HCN:Hid (∀i u,[Value.string nm,.bool r,.int .i64 op2,.int .i64 nn2,.string s2,.slice p2 pl2 pc2,.slice q2 ql2 qc2,.bool o2,.slice k2 kl2 kc2][i]?=some u→(x2.alloc (.cells #[.string nm,.bool r,.int .i64 op2,.int .i64 nn2,.string s2,.slice p2 pl2 pc2,.slice q2 ql2 qc2,.bool o2,.slice k2 kl2 kc2] 55)).cell? ((⟨x2.heap.size,0,none⟩:Addr).add i)=some u):=Lib.hid (World.news_of_block (Lx.heap_new x2 _));clear hX hs2 hv hPm hKm hq)
      |(at_builtin;refine wpList_append_own_at _ rfl _ _ 23 rfl w.heap.size 55 i0 _ 9 136 Tryz.underlying23 HI.out HI0.out HI1.out HI2.out rfl (by decide) _ LL.length (dcells LL) rfl (HO2.out.alloc _) ⟨x2.heap.size,0,none⟩ 1 1 [Value.string nm,.bool r,.int .i64 op2,.int .i64 nn2,.string s2,.slice p2 pl2 pc2,.slice q2 ql2 qc2,.bool o2,.slice k2 kl2 kc2] rfl rfl HCN.out (fun u hu=>by simp at hu;rcases hu with rfl|rfl|rfl|rfl|rfl|rfl|rfl|rfl|rfl<;>rfl) (by unfold maxLen;omega) (by omega) (by have:=HK2.out.size;simp;omega) ?_))
     intro v' w6 hown' hgrow hnil hob
     have hbase:=own_base HO2.out
     have HO6:=Lib.hid (show w6.ownsRow w.heap.size 55 9 v' (LL++[((⟨op2,nn2,s2,p2,pl2,pc2,q2,ql2,qc2,o2,k2,kl2,kc2⟩,⟨r,nm,x⟩):DX)]).length (dcells (LL++[((⟨op2,nn2,s2,p2,pl2,pc2,q2,ql2,qc2,o2,k2,kl2,kc2⟩,⟨r,nm,x⟩):DX)])) by rw [dcells_snoc,List.length_append];exact hown')
     have HE6:=Lib.hid (ElsD.app (y:=(⟨op2,nn2,s2,p2,pl2,pc2,q2,ql2,qc2,o2,k2,kl2,kc2⟩,⟨r,nm,x⟩)) HE2.out HXN.out HBR.out.size HBR.out hgrow (by rw [World.size_alloc];exact hob))
     have HP6:=Lib.hid ((HP2.out.below HBR.out).grown hgrow (fun k hk=>by have:=hbase k hk;omega))
     have HK6:=Lib.hid ((HK2.out.trans (.of_below HBR.out)).grown hgrow (fun k hk=>hbase k hk))
     have HZ6:=Lib.hid (show ∀y∈LL++[((⟨op2,nn2,s2,p2,pl2,pc2,q2,ql2,qc2,o2,k2,kl2,kc2⟩,⟨r,nm,x⟩):DX)],y.2.nm.size≤4096 from fun y hy=>(List.mem_append.1 hy).elim (hZ.out y) (fun hy=>by rw [List.mem_singleton.1 hy];exact HS2.out))
     clear hown' hgrow hnil hob hbase
     go_wp2_with fail
     go_roundw
     case rel=>exact ⟨LL++[((⟨op2,nn2,s2,p2,pl2,pc2,q2,ql2,qc2,o2,k2,kl2,kc2⟩,⟨r,nm,x⟩):DX)],M',a2,cp2,by simp;omega,HA'.out _,HO6,HE6,HZ6,HP6,HK6⟩
     case measure=>rw [HP6.out.leftN,hP.out.leftN];exact HL'.out
end Go.Proofs.YtkfihhagcimcmaaGreatDoor.Ps
