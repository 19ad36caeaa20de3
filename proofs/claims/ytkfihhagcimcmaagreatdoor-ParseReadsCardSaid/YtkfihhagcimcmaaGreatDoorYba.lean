/- Po, Pp, Pq, Pr -/
import Derived.Test.YtkfihhagcimcmaaGreatDoorChecked
import Derived.Test.YtkfihhagcimcmaaGreatDoorProg
import Derived.Test.YtkfihhagcimcmaaGreatDoorY1
import Derived.Test.YtkfihhagcimcmaaGreatDoorYag
import Derived.Test.YtkfihhagcimcmaaGreatDoorYay
namespace Go.Proofs.YtkfihhagcimcmaaGreatDoor.Ps
open Go.RowKit
open Lx (Tok bl_alloc bl_step)
theorem must_as (w:World) (p cap:Nat) (a:Option Addr) (L:List Tok) (E o:Int) (sg:ByteArray) (r:Res Unit) (h:Prs w p a cap L E o) (hr:Hid (must E sg.toList L=r)):Calls Tryz.prog 143 #[.pointer (some ⟨p,0,none⟩),.string sg] w (PostR VU w p E o r):=by
  rw [←hr.out];exact must_any w p cap a L E o sg h
theorem mustL (E:Int) (l:List UInt8) (L:List Tok):must E (ByteArray.toList ⟨l.toArray⟩) L=must E l L:=by rw [show (ByteArray.toList ⟨l.toArray⟩)=l from Lx.bs_list l]
set_option maxRecDepth 100000 in
set_option maxHeartbeats 4000000 in
theorem br_join (inner:Int→List Tok→Res Ex) (w:World) (p cap:Nat) (a:Option Addr) (t:Tok) (T:List Tok) (E o:Int) (h:Prs w p a cap (t::T) E o) (ho:0≤o∧o≤16)
    (ask:¬o=16→∀(W:World) (a:Option Addr) (cap:Nat),Prs W p a cap T E (o+1)→Calls Tryz.prog 145 #[.pointer (some ⟨p,0,none⟩)] W (PostR (VX W.heap.size) W p E (o+1) (inner (o+1) T))):
    Calls Tryz.prog 230 #[.pointer (some ⟨p,0,none⟩),.func (.func 145) #[.pointer (some ⟨p,0,none⟩)] #[],.string ⟨#[41]⟩] w (PostR (VX w.heap.size) w p E o (brM inner E [41] o (t::T))):=by
  have H:=Lib.hid h
  have HASK:=Lib.hid ask
  have hpl:=h.lt
  obtain ⟨c0,c1,c2,f0,f2⟩:=h.cells
  have e2:=past c2
  have HB0:=Lib.hid (bl_alloc (o:= .cells #[.int .i64 0,.int .i64 0,.string ⟨#[]⟩,.slice none 0 0,.slice none 0 0,.bool false,.slice none 0 0] 35) (Below.refl w.heap.size w))
  have HZ0:=Lib.hid (Bx.new w #[.int .i64 0,.int .i64 0,.string ⟨#[]⟩,.slice none 0 0,.slice none 0 0,.bool false,.slice none 0 0] 35)
  obtain ⟨ho0,ho16⟩:=ho
  have hw1:IntKind.i64.wrap (o+1)=o+1:=by rw [IntKind.wrap_i64];omega
  have hw2:IntKind.i64.wrap (o+1-1)=o:=by rw [IntKind.wrap_i64];omega
  have hw3:IntKind.i64.wrap o=o:=by rw [IntKind.wrap_i64];omega
  clear c0 c1 c2 f0 f2 h ask
  unfold brM
  by_cases h16:o=16
  · rw [if_pos h16]
    have HX:Hid ((pk E (t::T)).at_=t.at_):=Lib.hid rfl
    have hn:(o==16)=true:=by rw [h16];rfl
    clear hw1 hw2 hw3 h16
    go_enter Tryz.func230,Tryz.ntmps230
    go_wp2_with (go_at_call 97;refine (fault_as _ _ _ _ _ _ _ _ _ (H.out.below HB0.out) HX).mono ?_;rintro e w4 ⟨rfl,hb⟩;have HB4:=Lib.hid (bl_step HB0.out hb);clear hb)
    exact ⟨rfl,.mkN rfl (.of_below HB4.out)⟩
  · rw [if_neg h16]
    have hn:(o==16)=false:=by simpa using h16
    rw [List.tail_cons]
    replace HASK:=Lib.hid (HASK.out h16)
    clear h16
    cases hp:inner (o+1) T with
    |bad x y=>
      have HPT:=Lib.hid hp
      clear hp
      go_enter Tryz.func230,Tryz.ntmps230
      go_wp2_with (first
        |(go_at_call 141;refine (pass_any _ _ _ _ _ _ _ _ (H.out.below HB0.out)).mono ?_;rintro e w3 hq;obtain ⟨v,a3,cp3,rfl,rfl,hP3,hK3⟩:=hq.yes;obtain ⟨j0,j1,j2,jf0,jf2⟩:=hP3.cells;have HP3:=Lib.hid (hP3.open_ (o+1));have HK3:=Lib.hid (((Keep.of_below HB0.out).trans hK3).set 2 (.int .i64 (o+1)));have HZ3:=Lib.hid ((HZ0.out.keep hK3 (by omega)).other (c:=p) (i:=2) (v:= .int .i64 (o+1)) (by omega));clear j0 j1 hP3 hK3 hq)
        |(go_at_call 145;refine (HASK.out _ _ _ HP3.out).mono ?_;rintro e w4 hq;rw [HPT.out] at hq;obtain ⟨rfl,hK4⟩:=hq.no;have HK4:=Lib.hid (HK3.out.trans hK4);clear hq hK4))
      exact ⟨rfl,.mkN rfl HK4.out⟩
    |ok x M=>
      have HPT:=Lib.hid hp
      clear hp
      dsimp only [Res.bind]
      cases hm:must E [41] M with
      |bad y z=>
        have HM:Hid (must E (ByteArray.toList ⟨#[41]⟩) M= .bad y z):=Lib.hid ((mustL E [41] M).trans hm)
        clear hm
        go_enter Tryz.func230,Tryz.ntmps230
        go_wp2_with (first
          |(go_at_call 141;refine (pass_any _ _ _ _ _ _ _ _ (H.out.below HB0.out)).mono ?_;rintro e w3 hq;obtain ⟨v,a3,cp3,rfl,rfl,hP3,hK3⟩:=hq.yes;obtain ⟨j0,j1,j2,jf0,jf2⟩:=hP3.cells;have HP3:=Lib.hid (hP3.open_ (o+1));have HK3:=Lib.hid (((Keep.of_below HB0.out).trans hK3).set 2 (.int .i64 (o+1)));have HZ3:=Lib.hid ((HZ0.out.keep hK3 (by omega)).other (c:=p) (i:=2) (v:= .int .i64 (o+1)) (by omega));clear j0 j1 hP3 hK3 hq)
          |(go_at_call 145;refine (HASK.out _ _ _ HP3.out).mono ?_;rintro e w4 hq;rw [HPT.out] at hq;clear j2 jf0 jf2;obtain ⟨v,a4,cp4,rfl,hV,hP4,hK4⟩:=hq.yes;obtain ⟨op2,nn2,s2,p2,pl2,pc2,q2,ql2,qc2,o2,k2,kl2,kc2,rfl,hX⟩:=hV.hd;have HB4:=Lib.hid (bl_alloc (o:= .cells #[.int .i64 op2,.int .i64 nn2,.string s2,.slice p2 pl2 pc2,.slice q2 ql2 qc2,.bool o2,.slice k2 kl2 kc2] 35) (Below.refl w4.heap.size w4));have HE4:=Lib.hid ((hX.below HB4.out).less (Q:=fun b=>w.heap.size+1≤b) (fun b lt hb=>by have:=HZ3.out.lt;have hb2:_≤b:=hb;omega));have HP4:=Lib.hid (hP4.below HB4.out);have HX4:=Lib.hid (Bx.new w4 #[.int .i64 op2,.int .i64 nn2,.string s2,.slice p2 pl2 pc2,.slice q2 ql2 qc2,.bool o2,.slice k2 kl2 kc2] 35);have HZ4:=Lib.hid ((HZ3.out.keep hK4 (by omega)).below HB4.out);have hz4:=Nat.lt_of_lt_of_le HZ3.out.lt hK4.size;have HK4:=Lib.hid ((HK3.out.trans hK4).trans (.of_below HB4.out));clear hq hV hX hP4 hK4)
          |(go_at_call 143;refine (must_as _ _ _ _ _ _ _ _ _ HP4.out HM).mono ?_;rintro e w5 hq;obtain ⟨rfl,hK5⟩:=hq.no;have HK5:=Lib.hid (HK4.out.trans hK5);clear hq hK5))
        exact ⟨rfl,.mkN rfl HK5.out⟩
      |ok u M2=>
        have HM:Hid (must E (ByteArray.toList ⟨#[41]⟩) M= .ok u M2):=Lib.hid ((mustL E [41] M).trans hm)
        clear hm
        go_enter Tryz.func230,Tryz.ntmps230
        go_wp2_with (first
          |(go_at_call 141;refine (pass_any _ _ _ _ _ _ _ _ (H.out.below HB0.out)).mono ?_;rintro e w3 hq;obtain ⟨v,a3,cp3,rfl,rfl,hP3,hK3⟩:=hq.yes;obtain ⟨j0,j1,j2,jf0,jf2⟩:=hP3.cells;have HP3:=Lib.hid (hP3.open_ (o+1));have HK3:=Lib.hid (((Keep.of_below HB0.out).trans hK3).set 2 (.int .i64 (o+1)));have HZ3:=Lib.hid ((HZ0.out.keep hK3 (by omega)).other (c:=p) (i:=2) (v:= .int .i64 (o+1)) (by omega));clear j0 j1 hP3 hK3 hq)
          |(go_at_call 145;refine (HASK.out _ _ _ HP3.out).mono ?_;rintro e w4 hq;rw [HPT.out] at hq;clear j2 jf0 jf2;obtain ⟨v,a4,cp4,rfl,hV,hP4,hK4⟩:=hq.yes;obtain ⟨op2,nn2,s2,p2,pl2,pc2,q2,ql2,qc2,o2,k2,kl2,kc2,rfl,hX⟩:=hV.hd;have HB4:=Lib.hid (bl_alloc (o:= .cells #[.int .i64 op2,.int .i64 nn2,.string s2,.slice p2 pl2 pc2,.slice q2 ql2 qc2,.bool o2,.slice k2 kl2 kc2] 35) (Below.refl w4.heap.size w4));have HE4:=Lib.hid ((hX.below HB4.out).less (Q:=fun b=>w.heap.size+1≤b) (fun b lt hb=>by have:=HZ3.out.lt;have hb2:_≤b:=hb;omega));have HP4:=Lib.hid (hP4.below HB4.out);have HX4:=Lib.hid (Bx.new w4 #[.int .i64 op2,.int .i64 nn2,.string s2,.slice p2 pl2 pc2,.slice q2 ql2 qc2,.bool o2,.slice k2 kl2 kc2] 35);have HZ4:=Lib.hid ((HZ3.out.keep hK4 (by omega)).below HB4.out);have hz4:=Nat.lt_of_lt_of_le HZ3.out.lt hK4.size;have HK4:=Lib.hid ((HK3.out.trans hK4).trans (.of_below HB4.out));clear hq hV hX hP4 hK4)
          | (go_at_call 143; refine (must_as _ _ _ _ _ _ _ _ _ HP4.out HM).mono ?_; rintro e w5 hq; obtain ⟨v, a5, cp5, rfl, hv5, hP5, hK5⟩ := hq.yes; obtain rfl := hv5; obtain ⟨j0, j1, j2, jf0, jf2⟩ := hP5.cells
             have HE5:=Lib.hid (HE4.out.keep hK5 (by omega));have HX5:=Lib.hid ((HX4.out.keep hK5 (by omega)).other (c:=p) (i:=2) (v:= .int .i64 o) (by omega));have HZ5:=Lib.hid ((HZ4.out.keep hK5 (by omega)).other (c:=p) (i:=2) (v:= .int .i64 o) (by omega))
             have HP5:=Lib.hid (hP5.open_ o);have HK5:=Lib.hid ((HK4.out.trans hK5).set 2 (.int .i64 o))
             have q3:=HZ5.out;have m0:=q3.cell 0 rfl;have m1:=q3.cell 1 rfl;have m2:=q3.cell 2 rfl;have m3:=q3.cell 3 rfl;have m4:=q3.cell 4 rfl;have m5:=q3.cell 5 rfl;have m6:=q3.cell 6 rfl;have mf:=q3.fz;have q4:=HX5.out;have c0:=q4.cell 0 rfl;have c1:=q4.cell 1 rfl;have c2:=q4.cell 2 rfl;have c3:=q4.cell 3 rfl;have c4:=q4.cell 4 rfl;have c5:=q4.cell 5 rfl;have c6:=q4.cell 6 rfl
             clear q3 q4 j0 j1 hP5 hK5 hq))
        refine bodyPost_ret (v:= .agg #[.int .i64 op2,.int .i64 nn2,.string s2,.slice p2 pl2 pc2,.slice q2 ql2 qc2,.bool o2,.slice k2 kl2 kc2]) (by simp [results,Tryz.results230,go_sem,m0,m1,m2,m3,m4,m5,m6]) rfl ?_
        have hg:=put7_grown (w5.setCell ⟨p,2,none⟩ (.int .i64 o)) w.heap.size (.int .i64 op2) (.int .i64 nn2) (.string s2) (.slice p2 pl2 pc2) (.slice q2 ql2 qc2) (.bool o2) (.slice k2 kl2 kc2)
        have hE6:=HE5.out.keep ((Keep.refl p w5).set 2 (.int .i64 o)) (by omega)
        exact .mkY rfl ⟨⟨op2,nn2,s2,p2,pl2,pc2,q2,ql2,qc2,o2,k2,kl2,kc2⟩,rfl,hE6.turn hg.size (fun b lt hb=>⟨hg.block b lt (fun e=>by injection e with e;omega),by omega⟩)⟩ (HP5.out.grown hg (fun k e=>by cases e;exact hpl)) (HK5.out.grown hg (fun k e=>by cases e;exact Nat.le_refl _))
set_option maxRecDepth 100000 in
set_option maxHeartbeats 4000000 in
theorem br_fields (inner:Int→List Tok→Res Ex) (w:World) (p cap:Nat) (a:Option Addr) (t:Tok) (T:List Tok) (E o:Int) (h:Prs w p a cap (t::T) E o) (ho:0≤o∧o≤16)
    (ask:¬o=16→∀(W:World) (a:Option Addr) (cap:Nat),Prs W p a cap T E (o+1)→Calls Tryz.prog 231 #[.pointer (some ⟨p,0,none⟩)] W (PostR (VX W.heap.size) W p E (o+1) (inner (o+1) T))):
    Calls Tryz.prog 230 #[.pointer (some ⟨p,0,none⟩),.func (.func 231) #[.pointer (some ⟨p,0,none⟩)] #[],.string ⟨#[125]⟩] w (PostR (VX w.heap.size) w p E o (brM inner E [125] o (t::T))):=by
  have H:=Lib.hid h
  have HASK:=Lib.hid ask
  have hpl:=h.lt
  obtain ⟨c0,c1,c2,f0,f2⟩:=h.cells
  have e2:=past c2
  have HB0:=Lib.hid (bl_alloc (o:= .cells #[.int .i64 0,.int .i64 0,.string ⟨#[]⟩,.slice none 0 0,.slice none 0 0,.bool false,.slice none 0 0] 35) (Below.refl w.heap.size w))
  have HZ0:=Lib.hid (Bx.new w #[.int .i64 0,.int .i64 0,.string ⟨#[]⟩,.slice none 0 0,.slice none 0 0,.bool false,.slice none 0 0] 35)
  obtain ⟨ho0,ho16⟩:=ho
  have hw1:IntKind.i64.wrap (o+1)=o+1:=by rw [IntKind.wrap_i64];omega
  have hw2:IntKind.i64.wrap (o+1-1)=o:=by rw [IntKind.wrap_i64];omega
  have hw3:IntKind.i64.wrap o=o:=by rw [IntKind.wrap_i64];omega
  clear c0 c1 c2 f0 f2 h ask
  unfold brM
  by_cases h16:o=16
  · rw [if_pos h16]
    have HX:Hid ((pk E (t::T)).at_=t.at_):=Lib.hid rfl
    have hn:(o==16)=true:=by rw [h16];rfl
    clear hw1 hw2 hw3 h16
    go_enter Tryz.func230,Tryz.ntmps230
    go_wp2_with (go_at_call 97;refine (fault_as _ _ _ _ _ _ _ _ _ (H.out.below HB0.out) HX).mono ?_;rintro e w4 ⟨rfl,hb⟩;have HB4:=Lib.hid (bl_step HB0.out hb);clear hb)
    exact ⟨rfl,.mkN rfl (.of_below HB4.out)⟩
  · rw [if_neg h16]
    have hn:(o==16)=false:=by simpa using h16
    rw [List.tail_cons]
    replace HASK:=Lib.hid (HASK.out h16)
    clear h16
    cases hp:inner (o+1) T with
    |bad x y=>
      have HPT:=Lib.hid hp
      clear hp
      go_enter Tryz.func230,Tryz.ntmps230
      go_wp2_with (first
        |(go_at_call 141;refine (pass_any _ _ _ _ _ _ _ _ (H.out.below HB0.out)).mono ?_;rintro e w3 hq;obtain ⟨v,a3,cp3,rfl,rfl,hP3,hK3⟩:=hq.yes;obtain ⟨j0,j1,j2,jf0,jf2⟩:=hP3.cells;have HP3:=Lib.hid (hP3.open_ (o+1));have HK3:=Lib.hid (((Keep.of_below HB0.out).trans hK3).set 2 (.int .i64 (o+1)));have HZ3:=Lib.hid ((HZ0.out.keep hK3 (by omega)).other (c:=p) (i:=2) (v:= .int .i64 (o+1)) (by omega));clear j0 j1 hP3 hK3 hq)
        |(go_at_call 231;refine (HASK.out _ _ _ HP3.out).mono ?_;rintro e w4 hq;rw [HPT.out] at hq;obtain ⟨rfl,hK4⟩:=hq.no;have HK4:=Lib.hid (HK3.out.trans hK4);clear hq hK4))
      exact ⟨rfl,.mkN rfl HK4.out⟩
    |ok x M=>
      have HPT:=Lib.hid hp
      clear hp
      dsimp only [Res.bind]
      cases hm:must E [125] M with
      |bad y z=>
        have HM:Hid (must E (ByteArray.toList ⟨#[125]⟩) M= .bad y z):=Lib.hid ((mustL E [125] M).trans hm)
        clear hm
        go_enter Tryz.func230,Tryz.ntmps230
        go_wp2_with (first
          |(go_at_call 141;refine (pass_any _ _ _ _ _ _ _ _ (H.out.below HB0.out)).mono ?_;rintro e w3 hq;obtain ⟨v,a3,cp3,rfl,rfl,hP3,hK3⟩:=hq.yes;obtain ⟨j0,j1,j2,jf0,jf2⟩:=hP3.cells;have HP3:=Lib.hid (hP3.open_ (o+1));have HK3:=Lib.hid (((Keep.of_below HB0.out).trans hK3).set 2 (.int .i64 (o+1)));have HZ3:=Lib.hid ((HZ0.out.keep hK3 (by omega)).other (c:=p) (i:=2) (v:= .int .i64 (o+1)) (by omega));clear j0 j1 hP3 hK3 hq)
          |(go_at_call 231;refine (HASK.out _ _ _ HP3.out).mono ?_;rintro e w4 hq;rw [HPT.out] at hq;clear j2 jf0 jf2;obtain ⟨v,a4,cp4,rfl,hV,hP4,hK4⟩:=hq.yes;obtain ⟨op2,nn2,s2,p2,pl2,pc2,q2,ql2,qc2,o2,k2,kl2,kc2,rfl,hX⟩:=hV.hd;have HB4:=Lib.hid (bl_alloc (o:= .cells #[.int .i64 op2,.int .i64 nn2,.string s2,.slice p2 pl2 pc2,.slice q2 ql2 qc2,.bool o2,.slice k2 kl2 kc2] 35) (Below.refl w4.heap.size w4));have HE4:=Lib.hid ((hX.below HB4.out).less (Q:=fun b=>w.heap.size+1≤b) (fun b lt hb=>by have:=HZ3.out.lt;have hb2:_≤b:=hb;omega));have HP4:=Lib.hid (hP4.below HB4.out);have HX4:=Lib.hid (Bx.new w4 #[.int .i64 op2,.int .i64 nn2,.string s2,.slice p2 pl2 pc2,.slice q2 ql2 qc2,.bool o2,.slice k2 kl2 kc2] 35);have HZ4:=Lib.hid ((HZ3.out.keep hK4 (by omega)).below HB4.out);have hz4:=Nat.lt_of_lt_of_le HZ3.out.lt hK4.size;have HK4:=Lib.hid ((HK3.out.trans hK4).trans (.of_below HB4.out));clear hq hV hX hP4 hK4)
          |(go_at_call 143;refine (must_as _ _ _ _ _ _ _ _ _ HP4.out HM).mono ?_;rintro e w5 hq;obtain ⟨rfl,hK5⟩:=hq.no;have HK5:=Lib.hid (HK4.out.trans hK5);clear hq hK5))
        exact ⟨rfl,.mkN rfl HK5.out⟩
      |ok u M2=>
        have HM:Hid (must E (ByteArray.toList ⟨#[125]⟩) M= .ok u M2):=Lib.hid ((mustL E [125] M).trans hm)
        clear hm
        go_enter Tryz.func230,Tryz.ntmps230
        go_wp2_with (first
          |(go_at_call 141;refine (pass_any _ _ _ _ _ _ _ _ (H.out.below HB0.out)).mono ?_;rintro e w3 hq;obtain ⟨v,a3,cp3,rfl,rfl,hP3,hK3⟩:=hq.yes;obtain ⟨j0,j1,j2,jf0,jf2⟩:=hP3.cells;have HP3:=Lib.hid (hP3.open_ (o+1));have HK3:=Lib.hid (((Keep.of_below HB0.out).trans hK3).set 2 (.int .i64 (o+1)));have HZ3:=Lib.hid ((HZ0.out.keep hK3 (by omega)).other (c:=p) (i:=2) (v:= .int .i64 (o+1)) (by omega));clear j0 j1 hP3 hK3 hq)
          |(go_at_call 231;refine (HASK.out _ _ _ HP3.out).mono ?_;rintro e w4 hq;rw [HPT.out] at hq;clear j2 jf0 jf2;obtain ⟨v,a4,cp4,rfl,hV,hP4,hK4⟩:=hq.yes;obtain ⟨op2,nn2,s2,p2,pl2,pc2,q2,ql2,qc2,o2,k2,kl2,kc2,rfl,hX⟩:=hV.hd;have HB4:=Lib.hid (bl_alloc (o:= .cells #[.int .i64 op2,.int .i64 nn2,.string s2,.slice p2 pl2 pc2,.slice q2 ql2 qc2,.bool o2,.slice k2 kl2 kc2] 35) (Below.refl w4.heap.size w4));have HE4:=Lib.hid ((hX.below HB4.out).less (Q:=fun b=>w.heap.size+1≤b) (fun b lt hb=>by have:=HZ3.out.lt;have hb2:_≤b:=hb;omega));have HP4:=Lib.hid (hP4.below HB4.out);have HX4:=Lib.hid (Bx.new w4 #[.int .i64 op2,.int .i64 nn2,.string s2,.slice p2 pl2 pc2,.slice q2 ql2 qc2,.bool o2,.slice k2 kl2 kc2] 35);have HZ4:=Lib.hid ((HZ3.out.keep hK4 (by omega)).below HB4.out);have hz4:=Nat.lt_of_lt_of_le HZ3.out.lt hK4.size;have HK4:=Lib.hid ((HK3.out.trans hK4).trans (.of_below HB4.out));clear hq hV hX hP4 hK4)
          | (go_at_call 143; refine (must_as _ _ _ _ _ _ _ _ _ HP4.out HM).mono ?_; rintro e w5 hq; obtain ⟨v, a5, cp5, rfl, hv5, hP5, hK5⟩ := hq.yes; obtain rfl := hv5; obtain ⟨j0, j1, j2, jf0, jf2⟩ := hP5.cells
             have HE5:=Lib.hid (HE4.out.keep hK5 (by omega));have HX5:=Lib.hid ((HX4.out.keep hK5 (by omega)).other (c:=p) (i:=2) (v:= .int .i64 o) (by omega));have HZ5:=Lib.hid ((HZ4.out.keep hK5 (by omega)).other (c:=p) (i:=2) (v:= .int .i64 o) (by omega))
             have HP5:=Lib.hid (hP5.open_ o);have HK5:=Lib.hid ((HK4.out.trans hK5).set 2 (.int .i64 o))
             have q3:=HZ5.out;have m0:=q3.cell 0 rfl;have m1:=q3.cell 1 rfl;have m2:=q3.cell 2 rfl;have m3:=q3.cell 3 rfl;have m4:=q3.cell 4 rfl;have m5:=q3.cell 5 rfl;have m6:=q3.cell 6 rfl;have mf:=q3.fz;have q4:=HX5.out;have c0:=q4.cell 0 rfl;have c1:=q4.cell 1 rfl;have c2:=q4.cell 2 rfl;have c3:=q4.cell 3 rfl;have c4:=q4.cell 4 rfl;have c5:=q4.cell 5 rfl;have c6:=q4.cell 6 rfl
             clear q3 q4 j0 j1 hP5 hK5 hq))
        refine bodyPost_ret (v:= .agg #[.int .i64 op2,.int .i64 nn2,.string s2,.slice p2 pl2 pc2,.slice q2 ql2 qc2,.bool o2,.slice k2 kl2 kc2]) (by simp [results,Tryz.results230,go_sem,m0,m1,m2,m3,m4,m5,m6]) rfl ?_
        have hg:=put7_grown (w5.setCell ⟨p,2,none⟩ (.int .i64 o)) w.heap.size (.int .i64 op2) (.int .i64 nn2) (.string s2) (.slice p2 pl2 pc2) (.slice q2 ql2 qc2) (.bool o2) (.slice k2 kl2 kc2)
        have hE6:=HE5.out.keep ((Keep.refl p w5).set 2 (.int .i64 o)) (by omega)
        exact .mkY rfl ⟨⟨op2,nn2,s2,p2,pl2,pc2,q2,ql2,qc2,o2,k2,kl2,kc2⟩,rfl,hE6.turn hg.size (fun b lt hb=>⟨hg.block b lt (fun e=>by injection e with e;omega),by omega⟩)⟩ (HP5.out.grown hg (fun k e=>by cases e;exact hpl)) (HK5.out.grown hg (fun k e=>by cases e;exact Nat.le_refl _))
end Go.Proofs.YtkfihhagcimcmaaGreatDoor.Ps
namespace Go.Proofs.YtkfihhagcimcmaaGreatDoor.Ps
open Go.RowKit
open Lx (bl_alloc bl_step)
abbrev PX:=ByteArray×HX
def PX.cells (y:PX):List Value:= .string y.1::y.2.1.vals.toList
def pcells (L:List PX):List Value:=(L.map PX.cells).flatten
theorem pcells_snoc (L:List PX) (y:PX):pcells (L++[y])=pcells L++y.cells:=by simp [pcells]
theorem pcells_len:∀L:List PX,(pcells L).length=L.length*8
  |[]=>rfl
  |y::L=>by
    have:=pcells_len L
    unfold pcells at this⊢
    rw [List.map_cons,List.flatten_cons,List.length_append,this,List.length_cons]
    show 8+_=_
    omega
def PRow (w:World) (a:Option Addr) (L:List PX):Prop:=∀j,(hj:j<L.length)→∃b off,a=some ⟨b,off,none⟩∧b<w.heap.size∧w.cell? ⟨b,off+j*8,none⟩=some (.string L[j].1)∧HdAt w b (off+j*8+1) L[j].2.1
theorem PRow.below {w w':World} {a:Option Addr} {L:List PX} (h:PRow w a L) (hb:Below w.heap.size w w'):PRow w' a L:=fun j hj=>by
  obtain ⟨b,off,e,lt,h0,h1⟩:=h j hj
  exact ⟨b,off,e,Nat.lt_of_lt_of_le lt hb.size,(hb.cell (p:=⟨b,_,none⟩) lt).trans h0,HdAt.below h1 hb lt⟩
theorem PRow.keep {B:Nat} {w w':World} {a:Option Addr} {L:List PX} (h:PRow w a L) (hN:NoStr w B) (hk:Keep B w w'):PRow w' a L:=fun j hj=>by
  obtain ⟨b,off,e,lt,h0,h1⟩:=h j hj
  exact ⟨b,off,e,Nat.lt_of_lt_of_le lt hk.size,(keep_str hN hk h0).2,HdAt.keep hN hk h1⟩
theorem own_at {w:World} {base n E c:Nat} {L:List PX} {g j:Nat} (h:w.ownsRow base E 8 (.slice (some ⟨g,0,none⟩) n c) n (pcells L)) (hj:j<L.length):w.cell? ⟨g,j*8,none⟩=some (.string L[j].1)∧HdAt w g (j*8+1) L[j].2.1:=by
  have hl:∀r,r<8→w.cell? ⟨g,j*8+r,none⟩=(L[j].cells)[r]?:=fun r hr=>by
    have e1:=flat_get (L.map PX.cells) j r (fun x hx=>by obtain ⟨t,-,rfl⟩:=List.mem_map.1 hx;rfl) hr (by simpa using hj)
    rw [List.getElem_map] at e1
    have h2:=h.cells (g:=g) rfl (j*8+r) ((L[j].cells)[r]'hr) (by rw [show pcells L=(L.map PX.cells).flatten from rfl,e1,List.getElem?_eq_getElem hr])
    rw [show (⟨g,j*8+r,none⟩:Addr)=(⟨g,0,none⟩:Addr).add (j*8+r) by simp [Addr.add],h2,List.getElem?_eq_getElem hr]
  exact ⟨hl 0 (by decide),hl 1 (by decide),hl 2 (by decide),hl 3 (by decide),hl 4 (by decide),hl 5 (by decide),hl 6 (by decide),hl 7 (by decide)⟩
theorem prow_own {w:World} {base n E:Nat} {v:Value} {L:List PX} (h:w.ownsRow base E 8 v n (pcells L)):∃a c,v= .slice a n c∧PRow w a L:=by
  have h1:=h.1
  rw [pcells_len] at h1
  rcases h.2 with ⟨rfl,rfl⟩|⟨g,cap,cur,rfl,hb,hg,rest⟩
  · exact ⟨none,0,rfl,fun j hj=>by omega⟩
  · refine ⟨_,cap,rfl,fun j hj=>⟨g,0,rfl,(Array.getElem?_eq_some_iff.1 hg).1,?_⟩⟩
    rw [Nat.zero_add]
    exact own_at (c:=cap) h hj
def BoolA (b:Bool) (w:World) (e:Ending) (w':World):Prop:=e= .returned (.bool b)∧Below w.heap.size w w'
set_option maxRecDepth 100000 in
set_option maxHeartbeats 1000000 in
theorem cl_any (nm s:ByteArray) (h:Hd) (bx:Nat) (r:Bool) (w:World) (hx:Bx w bx #[.string s] 9) (hr:Hid ((nm.toList==s.toList)=r)):Calls Tryz.prog 239 #[h.pair nm,.pointer (some ⟨bx,0,none⟩)] w (BoolA r w):=by
  obtain ⟨op,nn,s1,p,pl,pc,q,ql,qc,o,k,kl,kc⟩:=h
  unfold Hd.pair
  dsimp only
  have c0:=past (hx.cell 0 rfl)
  have hr2:=hr.out
  clear hx hr
  go_enter Tryz.func239,Tryz.ntmps239
  go_wp2
  go_ret
  exact ⟨rfl,bl_alloc (Below.refl _ _)⟩
def IdxP (b:Bool) (w:World) (e:Ending) (w':World):Prop:=∃r:Int,e= .returned (.int .i64 r)∧(decide (0≤r))=b∧Below w.heap.size w w'
set_option maxRecDepth 100000 in
set_option maxHeartbeats 4000000 in
theorem index_any (L:List PX) (s:ByteArray) (a:Option Addr) (n c bx:Nat) (w:World) (hn:n=L.length) (hm:n≤1000000) (hL:PRow w a L) (hx:Bx w bx #[.string s] 9):
    Calls Tryz.prog 241 #[.slice a n c,.func (.func 239) #[] #[.pointer (some ⟨bx,0,none⟩)]] w (IdxP (hasB L s) w):=by
  have HL:=Lib.hid hL
  have HX:=Lib.hid hx
  have HN:=Lib.hid hn
  clear hL hx hn
  go_enter Tryz.func241,Tryz.ntmps241
  go_wp2_with fail
  go_loopw [8] (fun i wr=>∃k:Nat,k≤n∧i= .int .i64 k∧Hid ((L.take k).any (fun p=>p.1.toList==s.toList)=false)∧Hid (Below w.heap.size w wr)) (fun i _=>n-(intOf i).toNat)
  case atStart=>exact ⟨0,Nat.zero_le _,rfl,rfl,Below.refl _ _⟩
  case round=>
    obtain ⟨k,hk,rfl,hT,hB⟩:=hrel
    rename World=>wr
    by_cases hlt:k<n
    · have hkL:k<L.length:=by have:=HN.out;omega
      obtain ⟨b,off,rfl,lt,e0,hh⟩:=(HL.out.below hB.out) k hkL
      obtain ⟨⟨nm,⟨op,nn,s1,p,pl,pc,q,ql,qc,o,ka,kl,kc⟩,x⟩,hy⟩:∃y,L[k]=y:=⟨_,rfl⟩
      have HY:=Lib.hid hy
      rw [hy] at e0 hh
      obtain ⟨c0,c1,c2,c3,c4,c5,c6⟩:=hh
      dsimp only at e0 c0 c1 c2 c3 c4 c5 c6
      obtain ⟨r,hr⟩:∃r,(nm.toList==s.toList)=r:=⟨_,rfl⟩
      have KC:=Lib.hid (cl_any nm s ⟨op,nn,s1,p,pl,pc,q,ql,qc,o,ka,kl,kc⟩ bx r wr (HX.out.below hB.out) hr)
      unfold Hd.pair at KC
      dsimp only at KC
      have HR:=Lib.hid hr
      clear hy hr
      cases r
      · go_wp2_with (go_at_call 239;refine KC.out.mono ?_;rintro e w4 ⟨rfl,hB4⟩;have HB4:=Lib.hid hB4;clear hB4)
        go_roundw
        case rel=>exact ⟨k+1,by omega,by go_num,Lib.hid (show _=false by rw [List.take_succ_eq_append_getElem hkL,List.any_append,hT.out,HY.out];simp only [List.any_cons,List.any_nil];rw [HR.out];rfl),bl_step hB.out HB4.out⟩
        case measure=>simp [intOf];omega
      · go_wp2_with (go_at_call 239;refine KC.out.mono ?_;rintro e w4 ⟨rfl,hB4⟩;have HB4:=Lib.hid hB4;clear hB4)
        go_ret
        refine ⟨k,rfl,?_,bl_step hB.out HB4.out⟩
        rw [show hasB L s=true from List.any_eq_true.2 ⟨L[k],List.getElem_mem hkL,by rw [HY.out];exact HR.out⟩]
        simp
    · obtain rfl:k=n:=by omega
      go_wp2_with fail
      go_ret
      refine ⟨-1,rfl,?_,hB.out⟩
      have:=hT.out
      rw [List.take_of_length_le (by have:=HN.out;omega)] at this
      rw [show hasB L s=false from this]
      rfl
theorem index_as (L:List PX) (s:ByteArray) (r:Bool) (a:Option Addr) (n c bx:Nat) (w:World) (hn:n=L.length) (hm:n≤1000000) (hL:PRow w a L) (hx:Bx w bx #[.string s] 9) (hr:Hid (hasB L s=r)):
    Calls Tryz.prog 241 #[.slice a n c,.func (.func 239) #[] #[.pointer (some ⟨bx,0,none⟩)]] w (IdxP r w):=by rw [←hr.out];exact index_any L s a n c bx w hn hm hL hx
set_option maxRecDepth 100000 in
set_option maxHeartbeats 1000000 in
theorem contains_any (L:List PX) (s:ByteArray) (r:Bool) (a:Option Addr) (n c bx:Nat) (w:World) (hn:n=L.length) (hm:n≤1000000) (hL:PRow w a L) (hx:Bx w bx #[.string s] 9) (hr:Hid (hasB L s=r)):
    Calls Tryz.prog 238 #[.slice a n c,.func (.func 239) #[] #[.pointer (some ⟨bx,0,none⟩)]] w (BoolA r w):=by
  have HI:=Lib.hid (index_as L s r a n c bx w hn hm hL hx hr)
  clear hn hm hL hx hr
  go_enter Tryz.func238,Tryz.ntmps238
  go_wp2_with (go_at_call 241;refine HI.out.mono ?_;rintro e w4 ⟨i,rfl,hi,hB4⟩;have HI4:=Lib.hid hi;have HB4:=Lib.hid hB4;clear hi hB4)
  go_ret
  exact ⟨ret_bool HI4.out,HB4.out⟩
end Go.Proofs.YtkfihhagcimcmaaGreatDoor.Ps
namespace Go.Proofs.YtkfihhagcimcmaaGreatDoor.Ps
open Go.RowKit
open Lx (Tok bs bl_alloc)
def unP (L:List PX):List (ByteArray×Ex):=L.map fun y=>(y.1,y.2.2)
theorem hasB_unP (L:List PX) (s:ByteArray):hasB (unP L) s=hasB L s:=by
  unfold hasB unP
  rw [List.any_map]
  rfl
theorem unP_len (L:List PX):(unP L).length=L.length:=List.length_map ..
def VPr (B:Nat) (w:World) (y:ByteArray×Ex) (v:Value):Prop:=∃h:Hd,v=h.pair y.1∧XB (fun b=>B≤b) w h y.2∧y.1.size≤4096
def put8 (w:World) (b:Nat) (v0 v1 v2 v3 v4 v5 v6 v7:Value):World:=(((((((w.setCell ⟨b,0,none⟩ v0).setCell ⟨b,1,none⟩ v1).setCell ⟨b,2,none⟩ v2).setCell ⟨b,3,none⟩ v3).setCell ⟨b,4,none⟩ v4).setCell ⟨b,5,none⟩ v5).setCell ⟨b,6,none⟩ v6).setCell ⟨b,7,none⟩ v7
theorem put8_grown (w:World) (b:Nat) (v0 v1 v2 v3 v4 v5 v6 v7:Value):w.grownBy (put8 w b v0 v1 v2 v3 v4 v5 v6 v7) (some b):=by
  unfold put8
  have g:∀(w:World) (i:Nat) (v:Value),w.grownBy (w.setCell ⟨b,i,none⟩ v) (some b):=fun w i v=>⟨rfl,rfl,rfl,by simp [World.setCell],fun k hk hne=>Below.heap_setCell w ⟨b,i,none⟩ v k (fun e=>hne (by rw [e]))⟩
  exact (((((((g _ 0 v0).trans (g _ 1 v1)).trans (g _ 2 v2)).trans (g _ 3 v3)).trans (g _ 4 v4)).trans (g _ 5 v5)).trans (g _ 6 v6)).trans (g _ 7 v7)
theorem nameM_ok {E:Int} {L M:List Tok} {s:ByteArray} (h:nameM E L= .ok s M):nameB L=true∧bs (pk E L).x.t=s∧M=L:=by
  unfold nameM at h
  split at h
  · cases h;exact ⟨by assumption,rfl,rfl⟩
  · cases h
theorem nameM_bad {E:Int} {L:List Tok} {a x:Int} (h:nameM E L= .bad a x):nameB L=false∧a=(pk E L).at_∧x=21:=by
  unfold nameM at h
  split at h
  · cases h
  · rename_i hb
    injection h with h1 h2
    exact ⟨by simpa using hb,h1.symm,h2.symm⟩
set_option maxRecDepth 100000 in
set_option maxHeartbeats 8000000 in
theorem pair_any (join:List Tok→Res Ex) (w:World) (p cap:Nat) (a:Option Addr) (Lt:List Tok) (E o:Int) (L:List PX) (ra:Option Addr) (n rc:Nat) (h:Prs w p a cap Lt E o) (hn:n=L.length) (hm:n≤32) (hL:PRow w ra L)
    (ask:∀(W:World) (a:Option Addr) (cap:Nat) (M:List Tok),M.length+2≤Lt.length→Prs W p a cap M E o→Calls Tryz.prog 145 #[.pointer (some ⟨p,0,none⟩)] W (PostR (VX W.heap.size) W p E o (join M))):
    Calls Tryz.prog 234 #[.pointer (some ⟨p,0,none⟩),.slice ra n rc] w (PostR (VPr w.heap.size) w p E o (pairM join E (unP L) Lt)):=by
  have H:=Lib.hid h
  have HASK:=Lib.hid ask
  have HL:=Lib.hid hL
  have HN:=Lib.hid hn
  have hpl:=h.lt
  have HB0:=Lib.hid (bl_alloc (o:= .cells #[.string ⟨#[]⟩,.int .i64 0,.int .i64 0,.string ⟨#[]⟩,.slice none 0 0,.slice none 0 0,.bool false,.slice none 0 0] 109) (Below.refl w.heap.size w))
  have HZ0:=Lib.hid (Bx.new w #[.string ⟨#[]⟩,.int .i64 0,.int .i64 0,.string ⟨#[]⟩,.slice none 0 0,.slice none 0 0,.bool false,.slice none 0 0] 109)
  have hsw:(w.alloc (.cells #[.string ⟨#[]⟩,.int .i64 0,.int .i64 0,.string ⟨#[]⟩,.slice none 0 0,.slice none 0 0,.bool false,.slice none 0 0] 109)).heap.size=w.heap.size+1:=by simp
  obtain ⟨R,hR⟩:∃R,pairM join E (unP L) Lt=R:=⟨_,rfl⟩
  rw [hR]
  cases hq0:nameM E Lt with
  |bad x y=>
    have HQ:=Lib.hid hq0
    obtain ⟨h1,rfl,rfl⟩:=nameM_bad hq0
    have HR:Hid (R= .bad (pk E Lt).at_ 21):=Lib.hid (by rw [←hR];unfold pairM;rw [if_neg (by simp [h1])])
    clear h ask hL hn hR hq0 h1
    generalize (pk E Lt).at_=at_ at*
    go_enter Tryz.func234,Tryz.ntmps234
    go_wp2_with (go_at_call 142;refine (name_as _ _ _ _ _ _ _ _ (H.out.below HB0.out) HQ).mono ?_;rintro e w3 hq;obtain ⟨rfl,hK3⟩:=hq.no;have HK3:=Lib.hid ((Keep.of_below HB0.out).trans hK3);clear hK3 hq)
    exact ⟨rfl,.mkN HR.out HK3.out⟩
  |ok s M=>
    have HQ:=Lib.hid hq0
    obtain ⟨h1,h2,rfl⟩:=nameM_ok hq0
    have HSZ:=Lib.hid (nameM_size H.out.ok hq0)
    have hR1:R=if hasB L s then .bad (pk E M).at_ 6 else if n=32 then .bad (pk E M).at_ 4 else (must E [58] M.tail).bind fun _ L2=>(join L2).bind fun x L3=>(must E [59] L3).bind fun _ L4=> .ok (s,x) L4:=by
      rw [←hR];unfold pairM;rw [if_pos h1,h2,hasB_unP,unP_len,hn]
    obtain ⟨t,T,rfl,_,_⟩:=nameB_cons h1
    have HX:Hid ((pk E (t::T)).at_=t.at_):=Lib.hid rfl
    rw [show (pk E (t::T)).at_=t.at_ from rfl,List.tail_cons] at hR1
    clear h ask hL hn hR hq0 h1 h2
    cases hh:hasB L s with
    |true=>
      have HH:=Lib.hid hh
      have HR:Hid (R= .bad t.at_ 6):=Lib.hid (by rw [hR1,hh];rfl)
      clear hR1 hh
      generalize t.at_=at_ at*
      go_enter Tryz.func234,Tryz.ntmps234
      go_wp2_with (first|(go_at_call 142;refine (name_as _ _ _ _ _ _ _ _ (H.out.below HB0.out) HQ).mono ?_;rintro e w3 hq;obtain ⟨v,a3,cp3,rfl,hv3,hP3,hK3⟩:=hq.yes;obtain rfl:=hv3;have hb3:=bl_alloc (o:= .cells #[.string s] 9) (Below.refl w3.heap.size w3);have HX3:=Lib.hid (Bx.new w3 #[.string s] 9);have HP3:=Lib.hid (hP3.below hb3);have HZ3:=Lib.hid ((HZ0.out.keep hK3 (by omega)).below hb3);have HL3:=Lib.hid (((HL.out.below HB0.out).keep (H.out.below HB0.out).noStr hK3).below hb3);have hz3:=hK3.size;rw [hsw] at hz3;have HK3:=Lib.hid (((Keep.of_below HB0.out).trans hK3).trans (.of_below hb3));clear hP3 hK3 hq hb3)|(go_at_call 238;refine (contains_any _ _ _ _ _ _ _ _ HN.out (by omega) HL3.out HX3.out HH).mono ?_;rintro e w4 ⟨rfl,hb⟩;have HP4:=Lib.hid (HP3.out.below hb);have HZ4:=Lib.hid (HZ3.out.below hb);have HX4:=Lib.hid (HX3.out.below hb);have HK4:=Lib.hid (HK3.out.trans (.of_below hb));clear hb)|(go_at_call 97;refine (fault_as _ _ _ _ _ _ _ _ _ HP4.out HX).mono ?_;rintro e w5 ⟨rfl,hb⟩;have HK5:=Lib.hid (HK4.out.trans (.of_below hb));clear hb))
      exact ⟨rfl,.mkN HR.out HK5.out⟩
    |false=>
      have HH:=Lib.hid hh
      rw [hh,if_neg (by decide)] at hR1
      clear hh
      by_cases h32:n=32
      · have HR:Hid (R= .bad t.at_ 4):=Lib.hid (by rw [hR1,if_pos h32])
        have hn32:((n:Int)==32)=true:=by rw [h32];rfl
        clear hR1 h32
        generalize t.at_=at_ at*
        go_enter Tryz.func234,Tryz.ntmps234
        go_wp2_with (first|(go_at_call 142;refine (name_as _ _ _ _ _ _ _ _ (H.out.below HB0.out) HQ).mono ?_;rintro e w3 hq;obtain ⟨v,a3,cp3,rfl,hv3,hP3,hK3⟩:=hq.yes;obtain rfl:=hv3;have hb3:=bl_alloc (o:= .cells #[.string s] 9) (Below.refl w3.heap.size w3);have HX3:=Lib.hid (Bx.new w3 #[.string s] 9);have HP3:=Lib.hid (hP3.below hb3);have HZ3:=Lib.hid ((HZ0.out.keep hK3 (by omega)).below hb3);have HL3:=Lib.hid (((HL.out.below HB0.out).keep (H.out.below HB0.out).noStr hK3).below hb3);have hz3:=hK3.size;rw [hsw] at hz3;have HK3:=Lib.hid (((Keep.of_below HB0.out).trans hK3).trans (.of_below hb3));clear hP3 hK3 hq hb3)|(go_at_call 238;refine (contains_any _ _ _ _ _ _ _ _ HN.out (by omega) HL3.out HX3.out HH).mono ?_;rintro e w4 ⟨rfl,hb⟩;have HP4:=Lib.hid (HP3.out.below hb);have HZ4:=Lib.hid (HZ3.out.below hb);have HX4:=Lib.hid (HX3.out.below hb);have HK4:=Lib.hid (HK3.out.trans (.of_below hb));clear hb)|(go_at_call 97;refine (fault_as _ _ _ _ _ _ _ _ _ HP4.out HX).mono ?_;rintro e w5 ⟨rfl,hb⟩;have HK5:=Lib.hid (HK4.out.trans (.of_below hb));clear hb))
        exact ⟨rfl,.mkN HR.out HK5.out⟩
      · rw [if_neg h32] at hR1
        have hn32:((n:Int)==32)=false:=by simp;omega
        clear h32
        cases hm1:must E [58] T with
        |bad x y=>
          have HM1:Hid (must E (ByteArray.toList ⟨#[58]⟩) T= .bad x y):=Lib.hid ((mustL E [58] T).trans hm1)
          have HR:Hid (R= .bad x y):=Lib.hid (by rw [hR1,hm1];rfl)
          clear hR1 hm1
          go_enter Tryz.func234,Tryz.ntmps234
          go_wp2_with (first|(go_at_call 142;refine (name_as _ _ _ _ _ _ _ _ (H.out.below HB0.out) HQ).mono ?_;rintro e w3 hq;obtain ⟨v,a3,cp3,rfl,hv3,hP3,hK3⟩:=hq.yes;obtain rfl:=hv3;have hb3:=bl_alloc (o:= .cells #[.string s] 9) (Below.refl w3.heap.size w3);have HX3:=Lib.hid (Bx.new w3 #[.string s] 9);have HP3:=Lib.hid (hP3.below hb3);have HZ3:=Lib.hid ((HZ0.out.keep hK3 (by omega)).below hb3);have HL3:=Lib.hid (((HL.out.below HB0.out).keep (H.out.below HB0.out).noStr hK3).below hb3);have hz3:=hK3.size;rw [hsw] at hz3;have HK3:=Lib.hid (((Keep.of_below HB0.out).trans hK3).trans (.of_below hb3));clear hP3 hK3 hq hb3)|(go_at_call 238;refine (contains_any _ _ _ _ _ _ _ _ HN.out (by omega) HL3.out HX3.out HH).mono ?_;rintro e w4 ⟨rfl,hb⟩;have HP4:=Lib.hid (HP3.out.below hb);have HZ4:=Lib.hid (HZ3.out.below hb);have HX4:=Lib.hid (HX3.out.below hb);have HK4:=Lib.hid (HK3.out.trans (.of_below hb));clear hb)|(go_at_call 141;refine (pass_any _ _ _ _ _ _ _ _ HP4.out).mono ?_;rintro e w5 hq;obtain ⟨v,a5,cp5,rfl,hv5,hP5,hK5⟩:=hq.yes;obtain rfl:=hv5;have HP5:=Lib.hid hP5;have HZ5:=Lib.hid (HZ4.out.keep hK5 (by omega));have HX5:=Lib.hid (HX4.out.keep hK5 (by omega));have HK5:=Lib.hid (HK4.out.trans hK5);clear hP5 hK5 hq)|(go_at_call 143;(with_reducible refine (must_as _ _ _ _ _ _ _ _ _ HP5.out HM1).mono ?_);rintro e w6 hq;obtain ⟨rfl,hK6⟩:=hq.no;have HK6:=Lib.hid (HK5.out.trans hK6);clear hq hK6))
          exact ⟨rfl,.mkN HR.out HK6.out⟩
        |ok u T2=>
          have HM1:Hid (must E (ByteArray.toList ⟨#[58]⟩) T= .ok u T2):=Lib.hid ((mustL E [58] T).trans hm1)
          have hT2:T2.length+2≤(t::T).length:=by
            have:=(must_fits E [58] T _ _ hm1).2
            simp at this⊢;omega
          rw [hm1] at hR1
          dsimp only [Res.bind] at hR1
          clear hm1
          cases hp:join T2 with
          |bad x y=>
            have HPT:=Lib.hid hp
            have HR:Hid (R= .bad x y):=Lib.hid (by rw [hR1,hp])
            clear hR1 hp
            go_enter Tryz.func234,Tryz.ntmps234
            go_wp2_with (first|(go_at_call 142;refine (name_as _ _ _ _ _ _ _ _ (H.out.below HB0.out) HQ).mono ?_;rintro e w3 hq;obtain ⟨v,a3,cp3,rfl,hv3,hP3,hK3⟩:=hq.yes;obtain rfl:=hv3;have hb3:=bl_alloc (o:= .cells #[.string s] 9) (Below.refl w3.heap.size w3);have HX3:=Lib.hid (Bx.new w3 #[.string s] 9);have HP3:=Lib.hid (hP3.below hb3);have HZ3:=Lib.hid ((HZ0.out.keep hK3 (by omega)).below hb3);have HL3:=Lib.hid (((HL.out.below HB0.out).keep (H.out.below HB0.out).noStr hK3).below hb3);have hz3:=hK3.size;rw [hsw] at hz3;have HK3:=Lib.hid (((Keep.of_below HB0.out).trans hK3).trans (.of_below hb3));clear hP3 hK3 hq hb3)|(go_at_call 238;refine (contains_any _ _ _ _ _ _ _ _ HN.out (by omega) HL3.out HX3.out HH).mono ?_;rintro e w4 ⟨rfl,hb⟩;have HP4:=Lib.hid (HP3.out.below hb);have HZ4:=Lib.hid (HZ3.out.below hb);have HX4:=Lib.hid (HX3.out.below hb);have HK4:=Lib.hid (HK3.out.trans (.of_below hb));clear hb)|(go_at_call 141;refine (pass_any _ _ _ _ _ _ _ _ HP4.out).mono ?_;rintro e w5 hq;obtain ⟨v,a5,cp5,rfl,hv5,hP5,hK5⟩:=hq.yes;obtain rfl:=hv5;have HP5:=Lib.hid hP5;have HZ5:=Lib.hid (HZ4.out.keep hK5 (by omega));have HX5:=Lib.hid (HX4.out.keep hK5 (by omega));have HK5:=Lib.hid (HK4.out.trans hK5);clear hP5 hK5 hq)|(go_at_call 143;(with_reducible refine (must_as _ _ _ _ _ _ _ _ _ HP5.out HM1).mono ?_);rintro e w6 hq;obtain ⟨v,a6,cp6,rfl,hv6,hP6,hK6⟩:=hq.yes;obtain rfl:=hv6;have HP6:=Lib.hid hP6;have HZ6:=Lib.hid (HZ5.out.keep hK6 (by omega));have HX6:=Lib.hid (HX5.out.keep hK6 (by omega));have HK6:=Lib.hid (HK5.out.trans hK6);clear hP6 hK6 hq)|(go_at_call 145;refine (HASK.out _ _ _ _ hT2 HP6.out).mono ?_;rintro e w7 hq;rw [HPT.out] at hq;obtain ⟨rfl,hK7⟩:=hq.no;have HK7:=Lib.hid (HK6.out.trans hK7);clear hq hK7))
            exact ⟨rfl,.mkN HR.out HK7.out⟩
          |ok x T3=>
            have HPT:=Lib.hid hp
            rw [hp] at hR1
            dsimp only at hR1
            clear hp
            cases hm2:must E [59] T3 with
            |bad y z=>
              have HM2:Hid (must E (ByteArray.toList ⟨#[59]⟩) T3= .bad y z):=Lib.hid ((mustL E [59] T3).trans hm2)
              have HR:Hid (R= .bad y z):=Lib.hid (by rw [hR1,hm2])
              clear hR1 hm2
              go_enter Tryz.func234,Tryz.ntmps234
              go_wp2_with (first|(go_at_call 142;refine (name_as _ _ _ _ _ _ _ _ (H.out.below HB0.out) HQ).mono ?_;rintro e w3 hq;obtain ⟨v,a3,cp3,rfl,hv3,hP3,hK3⟩:=hq.yes;obtain rfl:=hv3;have hb3:=bl_alloc (o:= .cells #[.string s] 9) (Below.refl w3.heap.size w3);have HX3:=Lib.hid (Bx.new w3 #[.string s] 9);have HP3:=Lib.hid (hP3.below hb3);have HZ3:=Lib.hid ((HZ0.out.keep hK3 (by omega)).below hb3);have HL3:=Lib.hid (((HL.out.below HB0.out).keep (H.out.below HB0.out).noStr hK3).below hb3);have hz3:=hK3.size;rw [hsw] at hz3;have HK3:=Lib.hid (((Keep.of_below HB0.out).trans hK3).trans (.of_below hb3));clear hP3 hK3 hq hb3)|(go_at_call 238;refine (contains_any _ _ _ _ _ _ _ _ HN.out (by omega) HL3.out HX3.out HH).mono ?_;rintro e w4 ⟨rfl,hb⟩;have HP4:=Lib.hid (HP3.out.below hb);have HZ4:=Lib.hid (HZ3.out.below hb);have HX4:=Lib.hid (HX3.out.below hb);have HK4:=Lib.hid (HK3.out.trans (.of_below hb));clear hb)|(go_at_call 141;refine (pass_any _ _ _ _ _ _ _ _ HP4.out).mono ?_;rintro e w5 hq;obtain ⟨v,a5,cp5,rfl,hv5,hP5,hK5⟩:=hq.yes;obtain rfl:=hv5;have HP5:=Lib.hid hP5;have HZ5:=Lib.hid (HZ4.out.keep hK5 (by omega));have HX5:=Lib.hid (HX4.out.keep hK5 (by omega));have HK5:=Lib.hid (HK4.out.trans hK5);clear hP5 hK5 hq)|(go_at_call 143;(with_reducible refine (must_as _ _ _ _ _ _ _ _ _ HP5.out HM1).mono ?_);rintro e w6 hq;obtain ⟨v,a6,cp6,rfl,hv6,hP6,hK6⟩:=hq.yes;obtain rfl:=hv6;have HP6:=Lib.hid hP6;have HZ6:=Lib.hid (HZ5.out.keep hK6 (by omega));have HX6:=Lib.hid (HX5.out.keep hK6 (by omega));have HK6:=Lib.hid (HK5.out.trans hK6);clear hP6 hK6 hq)|(go_at_call 145;refine (HASK.out _ _ _ _ hT2 HP6.out).mono ?_;rintro e w7 hq;rw [HPT.out] at hq;obtain ⟨v,a7,cp7,rfl,hV,hP7,hK7⟩:=hq.yes;obtain ⟨op2,nn2,s2,p2,pl2,pc2,q2,ql2,qc2,o2,k2,kl2,kc2,rfl,hX⟩:=hV.hd;have hb7:=bl_alloc (o:= .cells #[.int .i64 op2,.int .i64 nn2,.string s2,.slice p2 pl2 pc2,.slice q2 ql2 qc2,.bool o2,.slice k2 kl2 kc2] 35) (Below.refl w7.heap.size w7);have HE7:=Lib.hid ((hX.below hb7).less (Q:=fun b=>w.heap.size+1≤b) (fun b lt hb=>by have:=HZ6.out.lt;have hb2:_≤b:=hb;omega));have HY7:=Lib.hid (Bx.new w7 #[.int .i64 op2,.int .i64 nn2,.string s2,.slice p2 pl2 pc2,.slice q2 ql2 qc2,.bool o2,.slice k2 kl2 kc2] 35);have HP7:=Lib.hid (hP7.below hb7);have HZ7:=Lib.hid ((HZ6.out.keep hK7 (by omega)).below hb7);have HX7:=Lib.hid ((HX6.out.keep hK7 (by omega)).below hb7);have hz7:=Nat.lt_of_lt_of_le HX6.out.lt hK7.size;have HK7:=Lib.hid ((HK6.out.trans hK7).trans (.of_below hb7));clear hq hV hX hP7 hK7 hb7)|(go_at_call 143;(with_reducible refine (must_as _ _ _ _ _ _ _ _ _ HP7.out HM2).mono ?_);rintro e w8 hq;obtain ⟨rfl,hK8⟩:=hq.no;have HK8:=Lib.hid (HK7.out.trans hK8);clear hq hK8))
              exact ⟨rfl,.mkN HR.out HK8.out⟩
            |ok u2 T4=>
              have HM2:Hid (must E (ByteArray.toList ⟨#[59]⟩) T3= .ok u2 T4):=Lib.hid ((mustL E [59] T3).trans hm2)
              have HR:Hid (R= .ok (s,x) T4):=Lib.hid (by rw [hR1,hm2])
              clear hR1 hm2
              go_enter Tryz.func234,Tryz.ntmps234
              go_wp2_with (first|(go_at_call 142;refine (name_as _ _ _ _ _ _ _ _ (H.out.below HB0.out) HQ).mono ?_;rintro e w3 hq;obtain ⟨v,a3,cp3,rfl,hv3,hP3,hK3⟩:=hq.yes;obtain rfl:=hv3;have hb3:=bl_alloc (o:= .cells #[.string s] 9) (Below.refl w3.heap.size w3);have HX3:=Lib.hid (Bx.new w3 #[.string s] 9);have HP3:=Lib.hid (hP3.below hb3);have HZ3:=Lib.hid ((HZ0.out.keep hK3 (by omega)).below hb3);have HL3:=Lib.hid (((HL.out.below HB0.out).keep (H.out.below HB0.out).noStr hK3).below hb3);have hz3:=hK3.size;rw [hsw] at hz3;have HK3:=Lib.hid (((Keep.of_below HB0.out).trans hK3).trans (.of_below hb3));clear hP3 hK3 hq hb3)|(go_at_call 238;refine (contains_any _ _ _ _ _ _ _ _ HN.out (by omega) HL3.out HX3.out HH).mono ?_;rintro e w4 ⟨rfl,hb⟩;have HP4:=Lib.hid (HP3.out.below hb);have HZ4:=Lib.hid (HZ3.out.below hb);have HX4:=Lib.hid (HX3.out.below hb);have HK4:=Lib.hid (HK3.out.trans (.of_below hb));clear hb)|(go_at_call 141;refine (pass_any _ _ _ _ _ _ _ _ HP4.out).mono ?_;rintro e w5 hq;obtain ⟨v,a5,cp5,rfl,hv5,hP5,hK5⟩:=hq.yes;obtain rfl:=hv5;have HP5:=Lib.hid hP5;have HZ5:=Lib.hid (HZ4.out.keep hK5 (by omega));have HX5:=Lib.hid (HX4.out.keep hK5 (by omega));have HK5:=Lib.hid (HK4.out.trans hK5);clear hP5 hK5 hq)|(go_at_call 143;(with_reducible refine (must_as _ _ _ _ _ _ _ _ _ HP5.out HM1).mono ?_);rintro e w6 hq;obtain ⟨v,a6,cp6,rfl,hv6,hP6,hK6⟩:=hq.yes;obtain rfl:=hv6;have HP6:=Lib.hid hP6;have HZ6:=Lib.hid (HZ5.out.keep hK6 (by omega));have HX6:=Lib.hid (HX5.out.keep hK6 (by omega));have HK6:=Lib.hid (HK5.out.trans hK6);clear hP6 hK6 hq)|(go_at_call 145;refine (HASK.out _ _ _ _ hT2 HP6.out).mono ?_;rintro e w7 hq;rw [HPT.out] at hq;obtain ⟨v,a7,cp7,rfl,hV,hP7,hK7⟩:=hq.yes;obtain ⟨op2,nn2,s2,p2,pl2,pc2,q2,ql2,qc2,o2,k2,kl2,kc2,rfl,hX⟩:=hV.hd;have hb7:=bl_alloc (o:= .cells #[.int .i64 op2,.int .i64 nn2,.string s2,.slice p2 pl2 pc2,.slice q2 ql2 qc2,.bool o2,.slice k2 kl2 kc2] 35) (Below.refl w7.heap.size w7);have HE7:=Lib.hid ((hX.below hb7).less (Q:=fun b=>w.heap.size+1≤b) (fun b lt hb=>by have:=HZ6.out.lt;have hb2:_≤b:=hb;omega));have HY7:=Lib.hid (Bx.new w7 #[.int .i64 op2,.int .i64 nn2,.string s2,.slice p2 pl2 pc2,.slice q2 ql2 qc2,.bool o2,.slice k2 kl2 kc2] 35);have HP7:=Lib.hid (hP7.below hb7);have HZ7:=Lib.hid ((HZ6.out.keep hK7 (by omega)).below hb7);have HX7:=Lib.hid ((HX6.out.keep hK7 (by omega)).below hb7);have hz7:=Nat.lt_of_lt_of_le HX6.out.lt hK7.size;have HK7:=Lib.hid ((HK6.out.trans hK7).trans (.of_below hb7));clear hq hV hX hP7 hK7 hb7)|(go_at_call 143;(with_reducible refine (must_as _ _ _ _ _ _ _ _ _ HP7.out HM2).mono ?_);rintro e w8 hq;obtain ⟨v,a8,cp8,rfl,hv8,hP8,hK8⟩:=hq.yes;obtain rfl:=hv8;have HP8:=Lib.hid hP8;have HE8:=Lib.hid (HE7.out.keep hK8 (by omega));have q1:=HZ7.out.keep hK8 (by omega);have q2:=HX7.out.keep hK8 (by omega);have q3:=HY7.out.keep hK8 (by omega);have HK8:=Lib.hid (HK7.out.trans hK8);have s0:=q2.cell 0 rfl;have c0:=q3.cell 0 rfl;have c1:=q3.cell 1 rfl;have c2:=q3.cell 2 rfl;have c3:=q3.cell 3 rfl;have c4:=q3.cell 4 rfl;have c5:=q3.cell 5 rfl;have c6:=q3.cell 6 rfl;have m0:=q1.cell 0 rfl;have m1:=q1.cell 1 rfl;have m2:=q1.cell 2 rfl;have m3:=q1.cell 3 rfl;have m4:=q1.cell 4 rfl;have m5:=q1.cell 5 rfl;have m6:=q1.cell 6 rfl;have m7:=q1.cell 7 rfl;have mf:=q1.fz;clear q1 q2 q3 hP8 hK8 hq))
              refine bodyPost_ret (v:= .agg #[.string s,.int .i64 op2,.int .i64 nn2,.string s2,.slice p2 pl2 pc2,.slice q2 ql2 qc2,.bool o2,.slice k2 kl2 kc2]) (by simp [results,Tryz.results234,go_sem,m0,m1,m2,m3,m4,m5,m6,m7]) rfl ?_
              have hg:=put8_grown w8 w.heap.size (.string s) (.int .i64 op2) (.int .i64 nn2) (.string s2) (.slice p2 pl2 pc2) (.slice q2 ql2 qc2) (.bool o2) (.slice k2 kl2 kc2)
              exact .mkY HR.out ⟨⟨op2,nn2,s2,p2,pl2,pc2,q2,ql2,qc2,o2,k2,kl2,kc2⟩,rfl,HE8.out.turn hg.size (fun b lt hb=>⟨hg.block b lt (fun e=>by injection e with e;omega),by omega⟩),HSZ.out⟩ (HP8.out.grown hg (fun k e=>by cases e;exact hpl)) (HK8.out.grown hg (fun k e=>by cases e;exact Nat.le_refl _))
end Go.Proofs.YtkfihhagcimcmaaGreatDoor.Ps
namespace Go.Proofs.YtkfihhagcimcmaaGreatDoor.Ps
open Go.RowKit
open Go.Sort (grow PermIn SortedIn HoldsK SWO flatK putRowK)
def cmpS (a b:ByteArray):Int:=if Op.bytesLess a.toList b.toList=true then-1 else if a.toList=b.toList then 0 else 1
set_option maxHeartbeats 400000 in
theorem nanS (a:ByteArray) (w:World):Calls Tryz.prog 157 #[.string a] w fun e w'=>e= .returned (.bool false)∧w'=w:=by
  go_enter Tryz.func157,Tryz.ntmps157
  go_wp2_with fail
  go_ret
  exact ⟨by simp,rfl⟩
set_option maxHeartbeats 400000 in
theorem cmpS_any (a b:ByteArray) (w:World):Calls Tryz.prog 127 #[.string a,.string b] w fun e w'=>e= .returned (.int .i64 (cmpS a b))∧w'=w:=by
  unfold cmpS
  generalize hu:a.toList=u at*
  generalize hv:b.toList=v at*
  by_cases h1:Op.bytesLess u v=true
  · rw [if_pos h1]
    go_enter Tryz.func127,Tryz.ntmps127
    go_wp2_with (go_at_call 157;refine (nanS _ _).mono ?_;rintro e w1 ⟨rfl,rfl⟩)
    go_ret
    exact ⟨rfl,rfl⟩
  · rw [if_neg h1]
    have h1':Op.bytesLess u v=false:=by simpa using h1
    by_cases h2:u=v
    · rw [if_pos h2]
      have h2':(u==v)=true:=by simpa using h2
      clear h2 h1
      go_enter Tryz.func127,Tryz.ntmps127
      go_wp2_with (go_at_call 157;refine (nanS _ _).mono ?_;rintro e w1 ⟨rfl,rfl⟩)
      go_ret
      exact ⟨rfl,rfl⟩
    · rw [if_neg h2]
      have h2':(u==v)=false:=by simpa using h2
      clear h1
      go_enter Tryz.func127,Tryz.ntmps127
      go_wp2_with (go_at_call 157;refine (nanS _ _).mono ?_;rintro e w1 ⟨rfl,rfl⟩)
      go_ret
      exact ⟨rfl,rfl⟩
structure Cmp {α:Type} (f:α→α→Int):Prop where
  refl:∀a,f a a=0
  anti:∀a b,f b a= -f a b
  trans:∀a b c,f a b≤0→f b c≤0→f a c≤0∧(f a c=0→f a b=0∧f b c=0)
  small:∀a b,-1≤f a b∧f a b≤1
theorem less_irrefl (u:List UInt8):Op.bytesLess u u=false:=by rw [bytesLess_eq];simp
theorem cmpS_cmp:Cmp cmpS where
  refl a:=by simp [cmpS,less_irrefl]
  anti a b:=by
    unfold cmpS
    rw [bytesLess_eq,bytesLess_eq]
    generalize a.toList=u
    generalize b.toList=v
    by_cases h1:u<v
    · have h2:¬v<u:=fun h=>List.lt_irrefl u (List.lt_trans h1 h)
      have h3:¬v=u:=fun e=>by subst e;exact List.lt_irrefl _ h1
      simp [h1,h2,h3]
    · by_cases h2:v<u
      · have h3:¬u=v:=fun e=>by subst e;exact List.lt_irrefl _ h2
        simp [h1,h2,h3]
      · have h3:u=v:=List.le_antisymm (List.not_lt.1 h2) (List.not_lt.1 h1)
        simp [h3,List.lt_irrefl]
  trans a b c:=by
    unfold cmpS
    rw [bytesLess_eq,bytesLess_eq,bytesLess_eq]
    generalize a.toList=u
    generalize b.toList=v
    generalize c.toList=x
    intro h1 h2
    have k1:u<v∨u=v:=by
      by_cases e:u<v
      · exact .inl e
      · by_cases e2:u=v
        · exact .inr e2
        · simp [e,e2] at h1
    have k2:v<x∨v=x:=by
      by_cases e:v<x
      · exact .inl e
      · by_cases e2:v=x
        · exact .inr e2
        · simp [e,e2] at h2
    rcases k1 with k1|k1<;>rcases k2 with k2|k2
    · have:=List.lt_trans k1 k2
      simp [this]
    · subst k2
      simp [k1]
    · subst k1
      simp [k2]
    · subst k1 k2
      simp [List.lt_irrefl]
  small a b:=by
    unfold cmpS
    split
    · omega
    · split<;>omega
def Gr (B:Nat) (w w':World):Prop:=Below B w w'∧w.drawn≤w'.drawn
theorem Gr.refl (B:Nat) (w:World):Gr B w w:=⟨Below.refl _ _,Nat.le_refl _⟩
theorem Gr.alloc {B:Nat} {a w:World} (h:Gr B a w) (hB:B≤w.heap.size) (o:Obj):Gr B a (w.alloc o):=⟨h.1.alloc hB o,h.2⟩
theorem Gr.size {B:Nat} {w w':World} (h:Gr B w w'):w.heap.size≤w'.heap.size:=h.1.size
theorem gl_alloc {w a:World} {o:Obj} (h:Gr w.heap.size w a):Gr w.heap.size w (a.alloc o):=h.alloc h.size o
theorem grow_of {w w':World} (h:Gr w.heap.size w w'):∃q os',w'=grow (w.drewN q) os':=by
  refine ⟨w'.drawn-w.drawn,w'.heap.extract w.heap.size w'.heap.size,?_⟩
  have hh:w'.heap=w.heap++w'.heap.extract w.heap.size w'.heap.size:=by
    apply Array.ext_getElem?
    intro i
    by_cases hi:i<w.heap.size
    · rw [Array.getElem?_append_left hi,h.1.block i hi]
    · rw [Array.getElem?_append_right (by omega),Array.getElem?_extract]
      by_cases hi2:i<w'.heap.size
      · rw [if_pos (by have:=h.size;omega)]
        congr 1;omega
      · rw [if_neg (by omega),Array.getElem?_eq_none (by omega)]
  obtain ⟨⟨h1,h2,h3,h4,h5⟩,h6⟩:=h
  cases w'
  cases w
  simp only [grow,World.drewN] at*
  subst h1 h2 h3
  congr 1
  omega
def GmpPost (r:Int) (w:World) (e:Ending) (w':World):Prop:=e= .returned (.int .i64 r)∧Gr w.heap.size w w'
instance:Inhabited PX:=⟨(⟨#[]⟩,⟨0,0,⟨#[]⟩,none,0,0,none,0,0,false,none,0,0⟩,leaf 0 0)⟩
def T8 (w:World) (g o:Nat) (y:PX):Prop:=w.cell? ⟨g,o,none⟩=some (.string y.1)∧HdAt w g (o+1) y.2.1
def RowP (w:World) (g:Nat) (d:List PX):Prop:=g<w.heap.size∧(∀o,w.frozen? ⟨g,o,none⟩=false)∧∀j (h:j<d.length),T8 w g (j*8) d[j]
theorem encP_at {w:World} {g o:Nat} {h:PX} (k:T8 w g o h) (r:Nat) (hr:r<8):w.cell? ⟨g,o+r,none⟩=some (h.cells[r]!):=by
  obtain ⟨h0,h1⟩:=k
  match r,hr with
  |0,_=>exact h0
  |1,_=>exact h1.c0
  |2,_=>exact h1.c1
  |3,_=>exact h1.c2
  |4,_=>exact h1.c3
  |5,_=>exact h1.c4
  |6,_=>exact h1.c5
  |7,_=>exact h1.c6
theorem t8_of {w:World} {g o:Nat} {h:PX} (k:∀r,r<8→w.cell? ⟨g,o+r,none⟩=some (h.cells[r]!)):T8 w g o h:=
  ⟨k 0 (by decide),k 1 (by decide),k 2 (by decide),k 3 (by decide),k 4 (by decide),k 5 (by decide),k 6 (by decide),k 7 (by decide)⟩
set_option maxRecDepth 100000 in
set_option maxHeartbeats 2000000 in
theorem names236 (a b:PX) (w:World):Calls Tryz.prog 236 #[a.2.1.pair a.1,b.2.1.pair b.1] w (GmpPost (cmpS a.1 b.1) w):=by
  obtain ⟨n1,⟨op1,nn1,s1,p1,pl1,pc1,q1,ql1,qc1,o1,k1,kl1,kc1⟩,x1⟩:=a
  obtain ⟨n2,⟨op2,nn2,s2,p2,pl2,pc2,q2,ql2,qc2,o2,k2,kl2,kc2⟩,x2⟩:=b
  have HC:=fun W=>Lib.hid (cmpS_any n1 n2 W)
  unfold Hd.pair
  dsimp only
  generalize cmpS n1 n2=r at*
  go_enter Tryz.func236,Tryz.ntmps236
  go_wp2_with (go_at_call 127;refine (HC _).out.mono ?_;rintro e w1 ⟨rfl,rfl⟩)
  go_ret
  exact ⟨rfl,gl_alloc (gl_alloc (Gr.refl _ _))⟩
def cmpP (a b:PX):Int:=cmpS a.1 b.1
theorem cmpP_swo:SWO (ltOf cmpP) where
  irrefl x:=by simp [ltOf,cmpP,cmpS_cmp.refl]
  trans x y z:=by
    simp only [ltOf,decide_eq_true_eq]
    unfold cmpP
    intro h1 h2
    have t:=cmpS_cmp.trans x.1 y.1 z.1 (by omega) (by omega)
    by_cases h0:cmpS x.1 z.1=0
    · have:=(t.2 h0).1;omega
    · omega
  ntrans x y z:=by
    simp only [ltOf,decide_eq_false_iff_not]
    unfold cmpP
    intro h1 h2 h3
    have a1:=cmpS_cmp.anti x.1 y.1
    have a2:=cmpS_cmp.anti y.1 z.1
    have a3:=cmpS_cmp.anti x.1 z.1
    have:=(cmpS_cmp.trans z.1 y.1 x.1 (by omega) (by omega)).1
    omega
theorem enters236:∀args w,(callFunc 236 args).run Tryz.prog w= .ok (.enter 236 args) w:=enters_of Tryz.func236 (by kernel_rfl) rfl
theorem sortWP_kp (w:World) (g m:Nat) (D:Array PX) (os:Array Obj):Keep g w (sortWorldK PX.cells 8 w g 0 m D os):=by
  refine ⟨rfl,rfl,rfl,?_,fun k hk hP=>?_⟩
  · simp [sortWorldK,grow,putRowK,Sort.putRow,Sort.mapBlock,Sort.ahead]
  · simp only [sortWorldK]
    rw [Sort.heap_grow_old _ _ (by simpa [putRowK,Sort.putRow,Sort.mapBlock,Sort.ahead] using hk)]
    simp only [putRowK,Sort.putRow,Sort.mapBlock,Sort.ahead,Array.getElem?_modify]
    rw [if_neg (fun e=>hP e.symm)]
theorem sortWP_frozen (w:World) (g m:Nat) (D:Array PX) (os:Array Obj) (hg:g<w.heap.size) (o:Nat):(sortWorldK PX.cells 8 w g 0 m D os).frozen? ⟨g,o,none⟩=w.frozen? ⟨g,o,none⟩:=by
  simp only [sortWorldK]
  rw [Sort.frozen?_grow _ _ _ (by simpa [putRowK,Sort.putRow,Sort.mapBlock,Sort.ahead] using hg)]
  unfold putRowK
  rw [Go.Sort.frozen?_putRow]
  rfl
def SortPP (g:Nat) (d:List PX) (w:World) (e:Ending) (w':World):Prop:=
  e= .returned (.tuple #[])∧∃d':List PX,d'.Perm d∧d'.Pairwise (fun a b=>cmpS a.1 b.1≤0)∧Keep g w w'∧RowP w' g d'
theorem sortP_any (g cap:Nat) (d:List PX) (hz:d.length<4611686018427387904) (w:World) (row:RowP w g d):
    Calls Tryz.prog 235 #[.slice (some ⟨g,0,none⟩) d.length cap,.func (.func 236) #[] #[]] w (SortPP g d w):=by
  obtain ⟨hgl,fz,row⟩:=row
  have hH:HoldsK PX.cells 8 w g 0 d.toArray:=by
    intro j hj
    rw [Sort.size_flatK,List.size_toArray] at hj
    refine ⟨?_,fz _⟩
    rw [Sort.get_flatK _ _ _ _ (by simpa using hj),Nat.zero_add]
    have hjd:j/8<d.length:=by omega
    have h:=encP_at (row (j/8) hjd) (j%8) (Nat.mod_lt _ (by omega))
    rw [Nat.div_add_mod'] at h
    rw [h]
    have:d.toArray[j/8]! =d[j/8]:=by rw [getElem!_pos _ _ (by simpa using hjd)];simp
    rw [this]
    rfl
  have hcmp:CmpLays Tryz.prog 236 #[] PX.cells 8 cmpP g 0 d.toArray.size w:=fun m os dk _ x y=>(names236 x y _).mono fun e w' ⟨h1,h2⟩=>⟨h1,grow_of h2⟩
  have h:=AnyQ.slices_SortFunc Tryz.sortP 8 Tryz.isAgg109 Tryz.sizeOf109 PX.cells (fun _=>rfl) (fun x v hv=>by
    rcases List.mem_cons.1 hv with rfl|hv
    · rfl
    · exact vals_one _ _ hv) cmpP cmpP_swo 236 #[] g 0 cap d.toArray w enters236 hcmp hH hgl (by simpa using hz)
  rw [List.size_toArray] at h
  refine Calls.mono h ?_
  rintro e w' ⟨rfl,D',m,os,hp,hs,rfl⟩
  obtain ⟨hp1,-,hp3⟩:=hp
  have hsz:D'.size=d.length:=by rw [hp1,List.size_toArray]
  have hH':=Go.Proofs.holdsK_sortWorldK_c PX.cells 8 w g 0 d.toArray D' m os hH hgl hp1
  have hrow:∀j (h:j<D'.size),T8 (sortWorldK PX.cells 8 w g 0 m D' os) g (j*8) D'[j]:=fun j h=>t8_of fun r hr=>by
    have:=(hH'.cell h hr).1
    rw [Nat.zero_add,getElem!_pos D' j h] at this
    exact this
  refine ⟨rfl,D'.toList,?_,?_,sortWP_kp w g m D' os,Nat.lt_of_lt_of_le hgl (sortWP_kp w g m D' os).size,fun o=>(sortWP_frozen w g m D' os hgl o).trans (fz o),fun j h=>?_⟩
  · have e1:D'.extract 0 d.length=D':=by rw [←hsz];simp
    have e2:d.toArray.extract 0 d.length=d.toArray:=by simp
    rw [e1,e2] at hp3
    simpa using hp3
  · rw [List.pairwise_iff_getElem]
    intro i j hi hj hij
    rw [Array.length_toList] at hi hj
    have:=hs i j (Nat.zero_le _) hij (by omega)
    rw [getElem!_pos D' j hj,getElem!_pos D' i hi] at this
    have h9:¬cmpS (D'[j]).1 (D'[i]).1<0:=of_decide_eq_false this
    rw [Array.getElem_toList,Array.getElem_toList]
    have a:=cmpS_cmp.anti (D'[i]).1 (D'[j]).1
    omega
  · rw [Array.getElem_toList]
    exact hrow j (by simpa using h)
end Go.Proofs.YtkfihhagcimcmaaGreatDoor.Ps
