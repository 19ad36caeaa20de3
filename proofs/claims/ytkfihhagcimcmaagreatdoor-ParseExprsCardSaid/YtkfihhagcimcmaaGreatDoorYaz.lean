/- Pn -/
import Derived.Test.YtkfihhagcimcmaaGreatDoorChecked
import Derived.Test.YtkfihhagcimcmaaGreatDoorProg
import Derived.Test.YtkfihhagcimcmaaGreatDoorY1
import Derived.Test.YtkfihhagcimcmaaGreatDoorYay
namespace Go.Proofs.YtkfihhagcimcmaaGreatDoor.Ps
open Go.RowKit
open Lx (Tok bl_alloc)
def BinAt (part:List Tok→Res Ex) (n:Nat) (R:Res Ex) (x:Ex) (M:List Tok):Prop:=∃g,M.length<g∧binF part n g x M=R
section
variable {part:List Tok→Res Ex} {n:Nat} {R:Res Ex} {x:Ex} {M:List Tok} (h:BinAt part n R x M)
include h
theorem BinAt.last (hb:opOf n M=0):R= .ok x M:=by
 obtain ⟨g,hg,h⟩:=h
 cases g with
 |zero=>omega
 |succ g=>rw [binF,if_pos hb] at h;exact h.symm
theorem BinAt.bad {a y op:Int} (hb:opOf n M=op) (h0:¬op=0) (hp:part M.tail= .bad a y):R= .bad a y:=by
 subst hb
 obtain ⟨g,hg,h⟩:=h
 cases g with
 |zero=>omega
 |succ g=>rw [binF,if_neg h0,hp] at h;exact h.symm
theorem BinAt.step {y:Ex} {op:Int} {M':List Tok} (hfit:∀L,Fits cnt L (part L)) (hb:opOf n M=op) (h0:¬op=0) (hp:part M.tail= .ok y M'):BinAt part n R (two op x y) M'∧M'<:+M.tail∧M'.length<M.length:=by
 subst hb
 obtain ⟨g,hg,h⟩:=h
 cases g with
 |zero=>omega
 |succ g=>
  rw [binF,if_neg h0,hp] at h
  obtain ⟨h1,h2⟩:=hfit _ _ _ hp
  have h3:=(List.tail_suffix M).length_le
  have h4:=cnt_pos y
  exact ⟨⟨g,by omega,h⟩,h1,by omega⟩
end
theorem XB.hd {P:Nat→Prop} {w w0:World} {x:Ex} {e:Ending} (h:TwP P x w0 e w):∃op n s p pl pc q ql qc o k kl kc,e= .returned (.agg #[.int .i64 op,.int .i64 n,.string s,.slice p pl pc,.slice q ql qc,.bool o,.slice k kl kc])∧XB (fun b=>P b∨w0.heap.size≤b) w ⟨op,n,s,p,pl,pc,q,ql,qc,o,k,kl,kc⟩ x∧Below w0.heap.size w0 w:=by
 obtain ⟨⟨op,n,s,p,pl,pc,q,ql,qc,o,k,kl,kc⟩,h1,h2,h3⟩:=h
 exact ⟨op,n,s,p,pl,pc,q,ql,qc,o,k,kl,kc,h1,h2,h3⟩
section
variable {P:Program} {md:Region.Mode} {ops:Array Oper} {Q:Exit→Act→World→Prop} {S:World→Prop}
theorem call_pan {i:Nat} {o:Oper} (d:Nat) {a:Act} {w w':World} {f:FuncId} {args:Array Value} {K:Act→World→Prop} (ho:ops[i]?=some o) (hd:o.dst=some d) (hw:Region.wanted o (yielded ops a.tmps)=true) (hr:(execOp a.eval o).run P w= .ok (.enter f args) w')
  (h:Calls P f args w' fun e w2=>(∃u,e= .returned u∧K {a with tmps:=a.tmps.setIfInBounds d u} w2)∨∃c,e= .panicked c∧Q (.panic c) a w2):wpOp P ops Q i K a w:=by
 unfold wpOp
 simp only [ho,hw,if_true,Oper.wp,hr,Oper.upon]
 refine .inl (h.mono fun e w2 hh=>?_)
 rcases hh with ⟨u,he,hk⟩|⟨c,he,hk⟩
 ·subst he;rw [hd];exact hk
 ·subst he;exact hk
end
set_option maxRecDepth 100000 in
set_option maxHeartbeats 4000000 in
theorem prod_any (part:List Tok→Res Ex) (w:World) (p cap:Nat) (a:Option Addr) (L:List Tok) (E o:Int) (h:Prs w p a cap L E o) (hfit:∀L,Fits cnt L (part L))
  (ask:∀(W:World) (a:Option Addr) (cap:Nat) (M:List Tok),M.length≤L.length→Prs W p a cap M E o→Calls Tryz.prog 227 #[.pointer (some ⟨p,0,none⟩)] W (PostR (VX W.heap.size) W p E o (part M))):
  Calls Tryz.prog 221 #[.pointer (some ⟨p,0,none⟩)] w (PostR (VX w.heap.size) w p E o ((part L).bind fun x L'=>binF part 4 (L'.length+1) x L')):=by
 have H:=Lib.hid h
 have HASK:=Lib.hid ask
 have HFIT:=Lib.hid hfit
 have hpl:=h.lt
 have HB0:=Lib.hid (bl_alloc (o:= .cells #[.int .i64 0,.int .i64 0,.string ⟨#[]⟩,.slice none 0 0,.slice none 0 0,.bool false,.slice none 0 0] 35) (Below.refl w.heap.size w))
 have HZ0:=Lib.hid (Bx.new w #[.int .i64 0,.int .i64 0,.string ⟨#[]⟩,.slice none 0 0,.slice none 0 0,.bool false,.slice none 0 0] 35)
 obtain ⟨R,hR⟩:∃R,((part L).bind fun x L'=>binF part 4 (L'.length+1) x L')=R:=⟨_,rfl⟩
 rw [hR]
 have hsw:(w.alloc (.cells #[.int .i64 0,.int .i64 0,.string ⟨#[]⟩,.slice none 0 0,.slice none 0 0,.bool false,.slice none 0 0] 35)).heap.size=w.heap.size+1:=by simp
 cases hp:part L with
 |bad x y=>
  have HPT:=Lib.hid hp
  have HR:Hid (R= .bad x y):=Lib.hid (by rw [←hR,hp];rfl)
  clear h ask hfit hR hp
  go_enter Tryz.func221,Tryz.ntmps221
  go_wp2_with (go_at_call 227;refine (HASK.out _ _ _ _ (Nat.le_refl _) (H.out.below HB0.out)).mono ?_;rintro e w4 hq;rw [HPT.out] at hq;obtain ⟨rfl,hK4⟩:=hq.no;have HK4:=Lib.hid ((Keep.of_below HB0.out).trans hK4);clear hq hK4)
  exact ⟨rfl,.mkN HR.out HK4.out⟩
 |ok x M=>
  have HPT:=Lib.hid hp
  have HA:Hid (BinAt part 4 R x M):=Lib.hid ⟨M.length+1,by omega,by rw [←hR,hp];rfl⟩
  have HS0:Hid (M<:+L):=Lib.hid (hfit _ _ _ hp).1
  clear h ask hfit hR hp
  go_enter Tryz.func221,Tryz.ntmps221
  go_wp2_with (go_at_call 227;refine (HASK.out _ _ _ _ (Nat.le_refl _) (H.out.below HB0.out)).mono ?_;rintro e w4 hq;rw [HPT.out] at hq;obtain ⟨v,a4,cp4,rfl,hV,hP4,hK4⟩:=hq.yes;obtain ⟨op2,nn2,s2,p2,pl2,pc2,q2,ql2,qc2,o2,k2,kl2,kc2,rfl,hX⟩:=hV.hd;have HV:=Lib.hid hX;have HP4:=Lib.hid hP4;have HZ4:=Lib.hid (HZ0.out.keep hK4 (by omega));have HK4:=Lib.hid ((Keep.of_below HB0.out).trans hK4);have hz4:=hK4.size;rw [hsw] at hz4;clear hq hV hX hP4 hK4)
  have hBR:=bl_alloc (o:= .cells #[.int .i64 op2,.int .i64 nn2,.string s2,.slice p2 pl2 pc2,.slice q2 ql2 qc2,.bool o2,.slice k2 kl2 kc2] 35) (Below.refl w4.heap.size w4)
  have HX5:=Lib.hid (Bx.new w4 #[.int .i64 op2,.int .i64 nn2,.string s2,.slice p2 pl2 pc2,.slice q2 ql2 qc2,.bool o2,.slice k2 kl2 kc2] 35)
  have HP5:=Lib.hid (HP4.out.below hBR)
  have HZ5:=Lib.hid (HZ4.out.below hBR)
  have HK5:=Lib.hid (HK4.out.trans (.of_below hBR))
  obtain ⟨b3,hb3⟩:∃b3,w4.heap.size=b3:=⟨_,rfl⟩
  have HE5:=Lib.hid (HV.out.turn (Q:=fun b=>w.heap.size+1≤b∧b≠b3) hBR.size (fun b lt hb=>⟨hBR.block b lt,by rw [hsw] at hb;exact hb,by omega⟩))
  rw [hb3] at HX5⊢
  obtain ⟨w5,hw5⟩:∃w5,w4.alloc (.cells #[.int .i64 op2,.int .i64 nn2,.string s2,.slice p2 pl2 pc2,.slice q2 ql2 qc2,.bool o2,.slice k2 kl2 kc2] 35)=w5:=⟨_,rfl⟩
  rw [hw5] at HX5 HP5 HZ5 HK5 HE5⊢
  have hb3w:w.heap.size+1≤b3:=by omega
  clear hw5 hBR HV HP4 HZ4 HK4 HPT hb3 hz4 hsw
  go_loopw [] (fun wr=>∃(y:Ex) (M:List Tok) (a':Option Addr) (cp:Nat) (hh:Hd),Hid (BinAt part 4 R y M)∧Hid (M<:+L)∧Hid (Bx wr b3 hh.vals 35)∧Hid (XB (fun b=>w.heap.size+1≤b∧b≠b3) wr hh y)∧Hid (Prs wr p a' cp M E o)∧Hid (Keep p w wr)∧Hid (Bx wr w.heap.size #[.int .i64 0,.int .i64 0,.string ⟨#[]⟩,.slice none 0 0,.slice none 0 0,.bool false,.slice none 0 0] 35)) (fun wr=>leftN wr p)
  case atStart=>exact ⟨x,M,a4,cp4,⟨op2,nn2,s2,p2,pl2,pc2,q2,ql2,qc2,o2,k2,kl2,kc2⟩,HA,HS0,HX5,HE5,HP5,HK5,HZ5⟩
  case round=>
   obtain ⟨x,M,a',cp,⟨op3,nn3,s3,p3,pl3,pc3,q3,ql3,qc3,o3,k3,kl3,kc3⟩,hA,hS,hX,hE,hP,hK,hZ⟩:=hrel
   rename World=>wr
   unfold Hd.vals at hX
   dsimp only at hX
   cases hba:isB [42] M with
   |false=>
    have HMa:Hid (isB (ByteArray.toList ⟨#[42]⟩) M=false∧(if false then M.tail else M)=M):=Lib.hid ⟨(isL [42] M).trans hba,rfl⟩
    have HR:=Lib.hid (hA.out.last (by unfold opOf;rw [if_neg (by decide),hba];rfl))
    clear hA hba
    go_wp2_with (go_at_call 164;(with_reducible refine (may_as _ _ _ _ _ _ _ _ _ _ hP.out HMa).mono ?_);rintro e wna hq;obtain ⟨v,aa,cpna,rfl,rfl,hPn,hKn⟩:=hq.yes;have HPa:=Lib.hid hPn;have HKa:=Lib.hid (hK.out.trans hKn);have HXa:=Lib.hid (hX.out.keep hKn (by omega));have HZa:=Lib.hid (hZ.out.keep hKn (by omega));have HEa:=Lib.hid (hE.out.keep hKn (by omega));have q3:=HZa.out;have m0:=q3.cell 0 rfl;have m1:=q3.cell 1 rfl;have m2:=q3.cell 2 rfl;have m3:=q3.cell 3 rfl;have m4:=q3.cell 4 rfl;have m5:=q3.cell 5 rfl;have m6:=q3.cell 6 rfl;have mf:=q3.fz;have q4:=HXa.out;have c0:=q4.cell 0 rfl;have c1:=q4.cell 1 rfl;have c2:=q4.cell 2 rfl;have c3:=q4.cell 3 rfl;have c4:=q4.cell 4 rfl;have c5:=q4.cell 5 rfl;have c6:=q4.cell 6 rfl;clear q3 q4;clear hPn hKn hq)
    refine bodyPost_ret (v:= .agg #[.int .i64 op3,.int .i64 nn3,.string s3,.slice p3 pl3 pc3,.slice q3 ql3 qc3,.bool o3,.slice k3 kl3 kc3]) (by simp [results,Tryz.results221,go_sem,m0,m1,m2,m3,m4,m5,m6]) rfl ?_
    have hg:=put7_grown wna w.heap.size (.int .i64 op3) (.int .i64 nn3) (.string s3) (.slice p3 pl3 pc3) (.slice q3 ql3 qc3) (.bool o3) (.slice k3 kl3 kc3)
    exact .mkY HR.out ⟨⟨op3,nn3,s3,p3,pl3,pc3,q3,ql3,qc3,o3,k3,kl3,kc3⟩,rfl,HEa.out.turn hg.size (fun b lt hb=>⟨hg.block b lt (fun e=>by injection e with e;omega),by omega⟩)⟩ (HPa.out.grown hg (fun k e=>by cases e;exact hpl)) (HKa.out.grown hg (fun k e=>by cases e;exact Nat.le_refl _))
   |true=>
    have HMa:Hid (isB (ByteArray.toList ⟨#[42]⟩) M=true∧(if true then M.tail else M)=M.tail):=Lib.hid ⟨(isL [42] M).trans hba,rfl⟩
    obtain ⟨t,T,rfl,_,_⟩:=isB_cons hba
    have hop:opOf 4 (t::T)=15:=by unfold opOf;rw [if_neg (by decide),hba];rfl
    have hTL:T.length≤L.length:=by have:=hS.out.length_le;simp at this;omega
    have arm:=fun (W:World) (a:Option Addr) (cap:Nat) (hP:Prs W p a cap T E o)=>Lib.hid (HASK.out W a cap T hTL hP)
    cases hp:part T with
    |bad x y=>
     have HPT:=Lib.hid hp
     have HR:=Lib.hid (hA.out.bad hop (by decide) hp)
     clear hA hp hop
     go_upto_region 3 with ((go_at_call 164;(with_reducible refine (may_as _ _ _ _ _ _ _ _ _ _ hP.out HMa).mono ?_);rintro e wna hq;obtain ⟨v,aa,cpna,rfl,rfl,hPn,hKn⟩:=hq.yes;have HPa:=Lib.hid hPn;have HKa:=Lib.hid (hK.out.trans hKn);have HXa:=Lib.hid (hX.out.keep hKn (by omega));have HZa:=Lib.hid (hZ.out.keep hKn (by omega));have HEa:=Lib.hid (hE.out.keep hKn (by omega));clear hPn hKn hq))
     have HP2:=HPa
     have HK2:=HKa
     have HX2:=HXa
     have HE2:=HEa
     have HZ2:=HZa
     generalize wna=wr2 at*
     obtain ⟨wd,hwd⟩:∃wd:World,wd={wr2 with drawn:=wr2.drawn+1}:=⟨_,rfl⟩
     have hbd:Below wr2.heap.size wr2 wd:=by rw [hwd];exact (Below.refl _ wr2).drew
     refine wp_region_held (S:=fun _=>True) (by kernel_rfl) ?_
     rw [←hwd]
     clear hwd
     have HPd:=Lib.hid (HP2.out.below hbd)
     have HKd:=Lib.hid (HK2.out.trans (.of_below hbd))
     have HXd:=Lib.hid (HX2.out.below hbd)
     have HZd:=Lib.hid (HZ2.out.below hbd)
     have HEd:=Lib.hid (HE2.out.below hbd)
     have hcd:=HXd.out
     have g0:=hcd.cell 0 rfl;have g1:=hcd.cell 1 rfl;have g2:=hcd.cell 2 rfl;have g3:=hcd.cell 3 rfl;have g4:=hcd.cell 4 rfl;have g5:=hcd.cell 5 rfl;have g6:=hcd.cell 6 rfl
     clear hcd hbd
     refine take_at' (i:=1) 9 (v:= .pointer (some ⟨p,0,none⟩)) rfl rfl (by kernel_rfl) (by kernel_rfl) (by kernel_rfl) (fun _ _ _ h=>h) (Or.inl ⟨by rfl,fun w' _=>by go_simp⟩) trivial ?_
     refine wpAnyH_all (rs:=[0,2]) (by kernel_rfl) (by simp) ?_
     intro i hi
     have hi2:i=0∨i=2:=by simpa using hi
     rcases hi2 with rfl|rfl
     ·refine value_at 8 (v:= .agg #[.int .i64 op3,.int .i64 nn3,.string s3,.slice p3 pl3 pc3,.slice q3 ql3 qc3,.bool o3,.slice k3 kl3 kc3]) (w':=wd) rfl rfl rfl (by go_simp) ⟨trivial,?_⟩
      refine wpAnyH_all (rs:=[2]) (by kernel_rfl) (by simp) ?_
      intro i hi
      obtain rfl:i=2:=by simpa using hi
      refine call_pan 10 (f:=227) (args:=#[.pointer (some ⟨p,0,none⟩)]) (w':=wd) rfl rfl rfl (by go_simp) ((arm _ _ _ HPd.out).out.mono ?_)
      rintro e Z hq
      rw [HPT.out] at hq
      obtain ⟨rfl,hK4⟩:=hq.no
      exact .inr ⟨_,rfl,rfl,.mkN HR.out (HKd.out.trans hK4)⟩
     ·refine call_pan 10 (f:=227) (args:=#[.pointer (some ⟨p,0,none⟩)]) (w':=wd) rfl rfl rfl (by go_simp) ((arm _ _ _ HPd.out).out.mono ?_)
      rintro e Z hq
      rw [HPT.out] at hq
      obtain ⟨rfl,hK4⟩:=hq.no
      exact .inr ⟨_,rfl,rfl,.mkN HR.out (HKd.out.trans hK4)⟩
    |ok y M'=>
     have HPT:=Lib.hid hp
     obtain ⟨hA',hs',hl'⟩:=hA.out.step HFIT.out hop (by decide) hp
     have HA':=Lib.hid hA'
     have HS':Hid (M'<:+L):=Lib.hid (hs'.trans ((List.suffix_cons _ _).trans hS.out))
     have HL':=Lib.hid hl'
     clear hA hp hA' hs' hl' hop
     go_upto_region 3 with ((go_at_call 164;(with_reducible refine (may_as _ _ _ _ _ _ _ _ _ _ hP.out HMa).mono ?_);rintro e wna hq;obtain ⟨v,aa,cpna,rfl,rfl,hPn,hKn⟩:=hq.yes;have HPa:=Lib.hid hPn;have HKa:=Lib.hid (hK.out.trans hKn);have HXa:=Lib.hid (hX.out.keep hKn (by omega));have HZa:=Lib.hid (hZ.out.keep hKn (by omega));have HEa:=Lib.hid (hE.out.keep hKn (by omega));clear hPn hKn hq))
     have HP2:=HPa
     have HK2:=HKa
     have HX2:=HXa
     have HE2:=HEa
     have HZ2:=HZa
     generalize wna=wr2 at*
     obtain ⟨wd,hwd⟩:∃wd:World,wd={wr2 with drawn:=wr2.drawn+1}:=⟨_,rfl⟩
     have hbd:Below wr2.heap.size wr2 wd:=by rw [hwd];exact (Below.refl _ wr2).drew
     refine wp_region_held (S:=fun _=>True) (by kernel_rfl) ?_
     rw [←hwd]
     clear hwd
     have HPd:=Lib.hid (HP2.out.below hbd)
     have HKd:=Lib.hid (HK2.out.trans (.of_below hbd))
     have HXd:=Lib.hid (HX2.out.below hbd)
     have HZd:=Lib.hid (HZ2.out.below hbd)
     have HEd:=Lib.hid (HE2.out.below hbd)
     have hcd:=HXd.out
     have g0:=hcd.cell 0 rfl;have g1:=hcd.cell 1 rfl;have g2:=hcd.cell 2 rfl;have g3:=hcd.cell 3 rfl;have g4:=hcd.cell 4 rfl;have g5:=hcd.cell 5 rfl;have g6:=hcd.cell 6 rfl
     clear hcd hbd
     refine take_at' (i:=1) 9 (v:= .pointer (some ⟨p,0,none⟩)) rfl rfl (by kernel_rfl) (by kernel_rfl) (by kernel_rfl) (fun _ _ _ h=>h) (Or.inl ⟨by rfl,fun w' _=>by go_simp⟩) trivial ?_
     refine wpAnyH_all (rs:=[0,2]) (by kernel_rfl) (by simp) ?_
     intro i hi
     have hi2:i=0∨i=2:=by simpa using hi
     rcases hi2 with rfl|rfl
     ·refine value_at 8 (v:= .agg #[.int .i64 op3,.int .i64 nn3,.string s3,.slice p3 pl3 pc3,.slice q3 ql3 qc3,.bool o3,.slice k3 kl3 kc3]) (w':=wd) rfl rfl rfl (by go_simp) ⟨trivial,?_⟩
      refine wpAnyH_all (rs:=[2]) (by kernel_rfl) (by simp) ?_
      intro i hi
      obtain rfl:i=2:=by simpa using hi
      refine call_pan 10 (f:=227) (args:=#[.pointer (some ⟨p,0,none⟩)]) (w':=wd) rfl rfl rfl (by go_simp) ((arm _ _ _ HPd.out).out.mono ?_)
      rintro e Z hq
      rw [HPT.out] at hq
      obtain ⟨v,a4,cp4,rfl,hV,hP4,hK4⟩:=hq.yes
      obtain ⟨op4,nn4,s4,p4,pl4,pc4,q4,ql4,qc4,o4,k4,kl4,kc4,rfl,hX⟩:=hV.hd
      refine .inl ⟨_,rfl,trivial,?_⟩
      have hB4:=HXd.out.keep hK4 (by omega)
      have hZ4:=HZd.out.keep hK4 (by omega)
      have hE4:=HEd.out.keep hK4 (by omega)
      have c0:=hB4.cell 0 rfl;have c1:=hB4.cell 1 rfl;have c2:=hB4.cell 2 rfl;have c3:=hB4.cell 3 rfl;have c4:=hB4.cell 4 rfl;have c5:=hB4.cell 5 rfl;have c6:=hB4.cell 6 rfl;have cf:=hB4.fz
      refine wpAnyH_all (rs:=[3]) (by kernel_rfl) (by simp) ?_
      intro i hi
      obtain rfl:i=3:=by simpa using hi
      refine call_at 11 (f:=222) (args:=#[.int .i64 15,.agg #[.int .i64 op3,.int .i64 nn3,.string s3,.slice p3 pl3 pc3,.slice q3 ql3 qc3,.bool o3,.slice k3 kl3 kc3],.agg #[.int .i64 op4,.int .i64 nn4,.string s4,.slice p4 pl4 pc4,.slice q4 ql4 qc4,.bool o4,.slice k4 kl4 kc4]]) (w':=Z) rfl rfl rfl (by go_simp) ((two_any (fun b=>w.heap.size+1≤b∧b≠b3) Z 15 ⟨op3,nn3,s3,p3,pl3,pc3,q3,ql3,qc3,o3,k3,kl3,kc3⟩ ⟨op4,nn4,s4,p4,pl4,pc4,q4,ql4,qc4,o4,k4,kl4,kc4⟩ x y hE4 (hX.less (fun b lt hb=>⟨by have:=HZd.out.lt;omega,by have:=HXd.out.lt;omega⟩))).mono ?_)
      rintro e Y hq2
      obtain ⟨op5,nn5,s5,p5,pl5,pc5,q5,ql5,qc5,o5,k5,kl5,kc5,rfl,hX5,hB5⟩:=XB.hd hq2
      refine ⟨_,rfl,trivial,?_⟩
      have hBy:=hB4.below hB5
      have d0:=hBy.cell 0 rfl;have d1:=hBy.cell 1 rfl;have d2:=hBy.cell 2 rfl;have d3:=hBy.cell 3 rfl;have d4:=hBy.cell 4 rfl;have d5:=hBy.cell 5 rfl;have d6:=hBy.cell 6 rfl;have df:=hBy.fz
      refine wpAnyH_all (rs:=[4]) (by kernel_rfl) (by simp) ?_
      intro i hi
      obtain rfl:i=4:=by simpa using hi
      refine skip_at (w':=put7 Y b3 (.int .i64 op5) (.int .i64 nn5) (.string s5) (.slice p5 pl5 pc5) (.slice q5 ql5 qc5) (.bool o5) (.slice k5 kl5 kc5)) rfl rfl rfl (by unfold put7;go_simp) ⟨trivial,?_⟩
      refine wpAnyH_done (by kernel_rfl) ?_ _
      simp only [List.setIfInBounds_toArray,List.set_cons_succ,List.set_cons_zero]
      have hg:=put7_grown Y b3 (.int .i64 op5) (.int .i64 nn5) (.string s5) (.slice p5 pl5 pc5) (.slice q5 ql5 qc5) (.bool o5) (.slice k5 kl5 kc5)
      have HX6:=Lib.hid (put7_bx (v0:= .int .i64 op5) (v1:= .int .i64 nn5) (v2:= .string s5) (v3:= .slice p5 pl5 pc5) (v4:= .slice q5 ql5 qc5) (v5:= .bool o5) (v6:= .slice k5 kl5 kc5) hBy)
      have HE6:=Lib.hid (hX5.turn (Q:=fun b=>w.heap.size+1≤b∧b≠b3) hg.size (fun b lt hb=>by
       have hlt3:=hB4.lt
       have hkz:=HKd.out.size
       have hk4:=hK4.size
       have hb2:w.heap.size+1≤b∧b≠b3:=by omega
       exact ⟨hg.block b lt (fun e=>hb2.2 (by injection e)),hb2⟩))
      have HP6:=Lib.hid ((hP4.below hB5).grown hg (fun k e=>by cases e;omega))
      have HK6:=Lib.hid (((HKd.out.trans hK4).trans (.of_below hB5)).grown hg (fun k e=>by cases e;omega))
      have HZ6:Hid (Bx (put7 Y b3 (.int .i64 op5) (.int .i64 nn5) (.string s5) (.slice p5 pl5 pc5) (.slice q5 ql5 qc5) (.bool o5) (.slice k5 kl5 kc5)) w.heap.size #[.int .i64 0,.int .i64 0,.string ⟨#[]⟩,.slice none 0 0,.slice none 0 0,.bool false,.slice none 0 0] 35):=Lib.hid ((hg.block _ (hZ4.below hB5).lt (fun e=>by injection e with e;omega)).trans (hZ4.below hB5))
      generalize put7 Y b3 (.int .i64 op5) (.int .i64 nn5) (.string s5) (.slice p5 pl5 pc5) (.slice q5 ql5 qc5) (.bool o5) (.slice k5 kl5 kc5)=w6 at*
      clear hq hV hX hP4 hK4 hq2 hX5 hB5 hB4 hZ4 hE4 hBy hg c0 c1 c2 c3 c4 c5 c6 cf d0 d1 d2 d3 d4 d5 d6 df
      go_wp2_with fail
      go_roundw
      case rel=>exact ⟨two 15 x y,M',a4,cp4,⟨op5,nn5,s5,p5,pl5,pc5,q5,ql5,qc5,o5,k5,kl5,kc5⟩,HA',HS',HX6,HE6,HP6,HK6,HZ6⟩
      case measure=>rw [HP6.out.leftN,hP.out.leftN];exact HL'.out
     ·refine call_pan 10 (f:=227) (args:=#[.pointer (some ⟨p,0,none⟩)]) (w':=wd) rfl rfl rfl (by go_simp) ((arm _ _ _ HPd.out).out.mono ?_)
      rintro e Z hq
      rw [HPT.out] at hq
      obtain ⟨v,a4,cp4,rfl,hV,hP4,hK4⟩:=hq.yes
      obtain ⟨op4,nn4,s4,p4,pl4,pc4,q4,ql4,qc4,o4,k4,kl4,kc4,rfl,hX⟩:=hV.hd
      refine .inl ⟨_,rfl,trivial,?_⟩
      have hB4:=HXd.out.keep hK4 (by omega)
      have hZ4:=HZd.out.keep hK4 (by omega)
      have hE4:=HEd.out.keep hK4 (by omega)
      have c0:=hB4.cell 0 rfl;have c1:=hB4.cell 1 rfl;have c2:=hB4.cell 2 rfl;have c3:=hB4.cell 3 rfl;have c4:=hB4.cell 4 rfl;have c5:=hB4.cell 5 rfl;have c6:=hB4.cell 6 rfl;have cf:=hB4.fz
      refine wpAnyH_all (rs:=[0]) (by kernel_rfl) (by simp) ?_
      intro i hi
      obtain rfl:i=0:=by simpa using hi
      refine value_at 8 (v:= .agg #[.int .i64 op3,.int .i64 nn3,.string s3,.slice p3 pl3 pc3,.slice q3 ql3 qc3,.bool o3,.slice k3 kl3 kc3]) (w':=Z) rfl rfl rfl (by go_simp) ⟨trivial,?_⟩
      refine wpAnyH_all (rs:=[3]) (by kernel_rfl) (by simp) ?_
      intro i hi
      obtain rfl:i=3:=by simpa using hi
      refine call_at 11 (f:=222) (args:=#[.int .i64 15,.agg #[.int .i64 op3,.int .i64 nn3,.string s3,.slice p3 pl3 pc3,.slice q3 ql3 qc3,.bool o3,.slice k3 kl3 kc3],.agg #[.int .i64 op4,.int .i64 nn4,.string s4,.slice p4 pl4 pc4,.slice q4 ql4 qc4,.bool o4,.slice k4 kl4 kc4]]) (w':=Z) rfl rfl rfl (by go_simp) ((two_any (fun b=>w.heap.size+1≤b∧b≠b3) Z 15 ⟨op3,nn3,s3,p3,pl3,pc3,q3,ql3,qc3,o3,k3,kl3,kc3⟩ ⟨op4,nn4,s4,p4,pl4,pc4,q4,ql4,qc4,o4,k4,kl4,kc4⟩ x y hE4 (hX.less (fun b lt hb=>⟨by have:=HZd.out.lt;omega,by have:=HXd.out.lt;omega⟩))).mono ?_)
      rintro e Y hq2
      obtain ⟨op5,nn5,s5,p5,pl5,pc5,q5,ql5,qc5,o5,k5,kl5,kc5,rfl,hX5,hB5⟩:=XB.hd hq2
      refine ⟨_,rfl,trivial,?_⟩
      have hBy:=hB4.below hB5
      have d0:=hBy.cell 0 rfl;have d1:=hBy.cell 1 rfl;have d2:=hBy.cell 2 rfl;have d3:=hBy.cell 3 rfl;have d4:=hBy.cell 4 rfl;have d5:=hBy.cell 5 rfl;have d6:=hBy.cell 6 rfl;have df:=hBy.fz
      refine wpAnyH_all (rs:=[4]) (by kernel_rfl) (by simp) ?_
      intro i hi
      obtain rfl:i=4:=by simpa using hi
      refine skip_at (w':=put7 Y b3 (.int .i64 op5) (.int .i64 nn5) (.string s5) (.slice p5 pl5 pc5) (.slice q5 ql5 qc5) (.bool o5) (.slice k5 kl5 kc5)) rfl rfl rfl (by unfold put7;go_simp) ⟨trivial,?_⟩
      refine wpAnyH_done (by kernel_rfl) ?_ _
      simp only [List.setIfInBounds_toArray,List.set_cons_succ,List.set_cons_zero]
      have hg:=put7_grown Y b3 (.int .i64 op5) (.int .i64 nn5) (.string s5) (.slice p5 pl5 pc5) (.slice q5 ql5 qc5) (.bool o5) (.slice k5 kl5 kc5)
      have HX6:=Lib.hid (put7_bx (v0:= .int .i64 op5) (v1:= .int .i64 nn5) (v2:= .string s5) (v3:= .slice p5 pl5 pc5) (v4:= .slice q5 ql5 qc5) (v5:= .bool o5) (v6:= .slice k5 kl5 kc5) hBy)
      have HE6:=Lib.hid (hX5.turn (Q:=fun b=>w.heap.size+1≤b∧b≠b3) hg.size (fun b lt hb=>by
       have hlt3:=hB4.lt
       have hkz:=HKd.out.size
       have hk4:=hK4.size
       have hb2:w.heap.size+1≤b∧b≠b3:=by omega
       exact ⟨hg.block b lt (fun e=>hb2.2 (by injection e)),hb2⟩))
      have HP6:=Lib.hid ((hP4.below hB5).grown hg (fun k e=>by cases e;omega))
      have HK6:=Lib.hid (((HKd.out.trans hK4).trans (.of_below hB5)).grown hg (fun k e=>by cases e;omega))
      have HZ6:Hid (Bx (put7 Y b3 (.int .i64 op5) (.int .i64 nn5) (.string s5) (.slice p5 pl5 pc5) (.slice q5 ql5 qc5) (.bool o5) (.slice k5 kl5 kc5)) w.heap.size #[.int .i64 0,.int .i64 0,.string ⟨#[]⟩,.slice none 0 0,.slice none 0 0,.bool false,.slice none 0 0] 35):=Lib.hid ((hg.block _ (hZ4.below hB5).lt (fun e=>by injection e with e;omega)).trans (hZ4.below hB5))
      generalize put7 Y b3 (.int .i64 op5) (.int .i64 nn5) (.string s5) (.slice p5 pl5 pc5) (.slice q5 ql5 qc5) (.bool o5) (.slice k5 kl5 kc5)=w6 at*
      clear hq hV hX hP4 hK4 hq2 hX5 hB5 hB4 hZ4 hE4 hBy hg c0 c1 c2 c3 c4 c5 c6 cf d0 d1 d2 d3 d4 d5 d6 df
      go_wp2_with fail
      go_roundw
      case rel=>exact ⟨two 15 x y,M',a4,cp4,⟨op5,nn5,s5,p5,pl5,pc5,q5,ql5,qc5,o5,k5,kl5,kc5⟩,HA',HS',HX6,HE6,HP6,HK6,HZ6⟩
      case measure=>rw [HP6.out.leftN,hP.out.leftN];exact HL'.out
set_option maxRecDepth 100000 in
set_option maxHeartbeats 4000000 in
theorem sum_any (part:List Tok→Res Ex) (w:World) (p cap:Nat) (a:Option Addr) (L:List Tok) (E o:Int) (h:Prs w p a cap L E o) (hfit:∀L,Fits cnt L (part L))
  (ask:∀(W:World) (a:Option Addr) (cap:Nat) (M:List Tok),M.length≤L.length→Prs W p a cap M E o→Calls Tryz.prog 221 #[.pointer (some ⟨p,0,none⟩)] W (PostR (VX W.heap.size) W p E o (part M))):
  Calls Tryz.prog 207 #[.pointer (some ⟨p,0,none⟩)] w (PostR (VX w.heap.size) w p E o ((part L).bind fun x L'=>binF part 3 (L'.length+1) x L')):=by
 have H:=Lib.hid h
 have HASK:=Lib.hid ask
 have HFIT:=Lib.hid hfit
 have hpl:=h.lt
 have HB0:=Lib.hid (bl_alloc (o:= .cells #[.int .i64 0,.int .i64 0,.string ⟨#[]⟩,.slice none 0 0,.slice none 0 0,.bool false,.slice none 0 0] 35) (Below.refl w.heap.size w))
 have HZ0:=Lib.hid (Bx.new w #[.int .i64 0,.int .i64 0,.string ⟨#[]⟩,.slice none 0 0,.slice none 0 0,.bool false,.slice none 0 0] 35)
 obtain ⟨R,hR⟩:∃R,((part L).bind fun x L'=>binF part 3 (L'.length+1) x L')=R:=⟨_,rfl⟩
 rw [hR]
 have hsw:(w.alloc (.cells #[.int .i64 0,.int .i64 0,.string ⟨#[]⟩,.slice none 0 0,.slice none 0 0,.bool false,.slice none 0 0] 35)).heap.size=w.heap.size+1:=by simp
 cases hp:part L with
 |bad x y=>
  have HPT:=Lib.hid hp
  have HR:Hid (R= .bad x y):=Lib.hid (by rw [←hR,hp];rfl)
  clear h ask hfit hR hp
  go_enter Tryz.func207,Tryz.ntmps207
  go_wp2_with (go_at_call 221;refine (HASK.out _ _ _ _ (Nat.le_refl _) (H.out.below HB0.out)).mono ?_;rintro e w4 hq;rw [HPT.out] at hq;obtain ⟨rfl,hK4⟩:=hq.no;have HK4:=Lib.hid ((Keep.of_below HB0.out).trans hK4);clear hq hK4)
  exact ⟨rfl,.mkN HR.out HK4.out⟩
 |ok x M=>
  have HPT:=Lib.hid hp
  have HA:Hid (BinAt part 3 R x M):=Lib.hid ⟨M.length+1,by omega,by rw [←hR,hp];rfl⟩
  have HS0:Hid (M<:+L):=Lib.hid (hfit _ _ _ hp).1
  clear h ask hfit hR hp
  go_enter Tryz.func207,Tryz.ntmps207
  go_wp2_with (go_at_call 221;refine (HASK.out _ _ _ _ (Nat.le_refl _) (H.out.below HB0.out)).mono ?_;rintro e w4 hq;rw [HPT.out] at hq;obtain ⟨v,a4,cp4,rfl,hV,hP4,hK4⟩:=hq.yes;obtain ⟨op2,nn2,s2,p2,pl2,pc2,q2,ql2,qc2,o2,k2,kl2,kc2,rfl,hX⟩:=hV.hd;have HV:=Lib.hid hX;have HP4:=Lib.hid hP4;have HZ4:=Lib.hid (HZ0.out.keep hK4 (by omega));have HK4:=Lib.hid ((Keep.of_below HB0.out).trans hK4);have hz4:=hK4.size;rw [hsw] at hz4;clear hq hV hX hP4 hK4)
  have hBR:=bl_alloc (o:= .cells #[.int .i64 op2,.int .i64 nn2,.string s2,.slice p2 pl2 pc2,.slice q2 ql2 qc2,.bool o2,.slice k2 kl2 kc2] 35) (Below.refl w4.heap.size w4)
  have HX5:=Lib.hid (Bx.new w4 #[.int .i64 op2,.int .i64 nn2,.string s2,.slice p2 pl2 pc2,.slice q2 ql2 qc2,.bool o2,.slice k2 kl2 kc2] 35)
  have HP5:=Lib.hid (HP4.out.below hBR)
  have HZ5:=Lib.hid (HZ4.out.below hBR)
  have HK5:=Lib.hid (HK4.out.trans (.of_below hBR))
  obtain ⟨b3,hb3⟩:∃b3,w4.heap.size=b3:=⟨_,rfl⟩
  have HE5:=Lib.hid (HV.out.turn (Q:=fun b=>w.heap.size+1≤b∧b≠b3) hBR.size (fun b lt hb=>⟨hBR.block b lt,by rw [hsw] at hb;exact hb,by omega⟩))
  rw [hb3] at HX5⊢
  obtain ⟨w5,hw5⟩:∃w5,w4.alloc (.cells #[.int .i64 op2,.int .i64 nn2,.string s2,.slice p2 pl2 pc2,.slice q2 ql2 qc2,.bool o2,.slice k2 kl2 kc2] 35)=w5:=⟨_,rfl⟩
  rw [hw5] at HX5 HP5 HZ5 HK5 HE5⊢
  have hb3w:w.heap.size+1≤b3:=by omega
  clear hw5 hBR HV HP4 HZ4 HK4 HPT hb3 hz4 hsw
  go_loopw [] (fun wr=>∃(y:Ex) (M:List Tok) (a':Option Addr) (cp:Nat) (hh:Hd),Hid (BinAt part 3 R y M)∧Hid (M<:+L)∧Hid (Bx wr b3 hh.vals 35)∧Hid (XB (fun b=>w.heap.size+1≤b∧b≠b3) wr hh y)∧Hid (Prs wr p a' cp M E o)∧Hid (Keep p w wr)∧Hid (Bx wr w.heap.size #[.int .i64 0,.int .i64 0,.string ⟨#[]⟩,.slice none 0 0,.slice none 0 0,.bool false,.slice none 0 0] 35)) (fun wr=>leftN wr p)
  case atStart=>exact ⟨x,M,a4,cp4,⟨op2,nn2,s2,p2,pl2,pc2,q2,ql2,qc2,o2,k2,kl2,kc2⟩,HA,HS0,HX5,HE5,HP5,HK5,HZ5⟩
  case round=>
   obtain ⟨x,M,a',cp,⟨op3,nn3,s3,p3,pl3,pc3,q3,ql3,qc3,o3,k3,kl3,kc3⟩,hA,hS,hX,hE,hP,hK,hZ⟩:=hrel
   rename World=>wr
   unfold Hd.vals at hX
   dsimp only at hX
   cases hba:isB [43] M with
   |true=>
    have HMa:Hid (isB (ByteArray.toList ⟨#[43]⟩) M=true∧(if true then M.tail else M)=M.tail):=Lib.hid ⟨(isL [43] M).trans hba,rfl⟩
    obtain ⟨t,T,rfl,_,_⟩:=isB_cons hba
    have hop:opOf 3 (t::T)=13:=by unfold opOf;rw [if_pos rfl,hba];rfl
    have hTL:T.length≤L.length:=by have:=hS.out.length_le;simp at this;omega
    have arm:=fun (W:World) (a:Option Addr) (cap:Nat) (hP:Prs W p a cap T E o)=>Lib.hid (HASK.out W a cap T hTL hP)
    cases hp:part T with
    |bad x y=>
     have HPT:=Lib.hid hp
     have HR:=Lib.hid (hA.out.bad hop (by decide) hp)
     clear hA hp hop
     go_upto_region 4 with ((go_at_call 164;(with_reducible refine (may_as _ _ _ _ _ _ _ _ _ _ hP.out HMa).mono ?_);rintro e wna hq;obtain ⟨v,aa,cpna,rfl,rfl,hPn,hKn⟩:=hq.yes;have HPa:=Lib.hid hPn;have HKa:=Lib.hid (hK.out.trans hKn);have HXa:=Lib.hid (hX.out.keep hKn (by omega));have HZa:=Lib.hid (hZ.out.keep hKn (by omega));have HEa:=Lib.hid (hE.out.keep hKn (by omega));clear hPn hKn hq))
     have HP2:=HPa
     have HK2:=HKa
     have HX2:=HXa
     have HE2:=HEa
     have HZ2:=HZa
     generalize wna=wr2 at*
     obtain ⟨wd,hwd⟩:∃wd:World,wd={wr2 with drawn:=wr2.drawn+1}:=⟨_,rfl⟩
     have hbd:Below wr2.heap.size wr2 wd:=by rw [hwd];exact (Below.refl _ wr2).drew
     refine wp_region_held (S:=fun _=>True) (by kernel_rfl) ?_
     rw [←hwd]
     clear hwd
     have HPd:=Lib.hid (HP2.out.below hbd)
     have HKd:=Lib.hid (HK2.out.trans (.of_below hbd))
     have HXd:=Lib.hid (HX2.out.below hbd)
     have HZd:=Lib.hid (HZ2.out.below hbd)
     have HEd:=Lib.hid (HE2.out.below hbd)
     have hcd:=HXd.out
     have g0:=hcd.cell 0 rfl;have g1:=hcd.cell 1 rfl;have g2:=hcd.cell 2 rfl;have g3:=hcd.cell 3 rfl;have g4:=hcd.cell 4 rfl;have g5:=hcd.cell 5 rfl;have g6:=hcd.cell 6 rfl
     clear hcd hbd
     refine take_at' (i:=1) 11 (v:= .pointer (some ⟨p,0,none⟩)) rfl rfl (by kernel_rfl) (by kernel_rfl) (by kernel_rfl) (fun _ _ _ h=>h) (Or.inl ⟨by rfl,fun w' _=>by go_simp⟩) trivial ?_
     refine wpAnyH_all (rs:=[0,2]) (by kernel_rfl) (by simp) ?_
     intro i hi
     have hi2:i=0∨i=2:=by simpa using hi
     rcases hi2 with rfl|rfl
     ·refine value_at 10 (v:= .agg #[.int .i64 op3,.int .i64 nn3,.string s3,.slice p3 pl3 pc3,.slice q3 ql3 qc3,.bool o3,.slice k3 kl3 kc3]) (w':=wd) rfl rfl rfl (by go_simp) ⟨trivial,?_⟩
      refine wpAnyH_all (rs:=[2]) (by kernel_rfl) (by simp) ?_
      intro i hi
      obtain rfl:i=2:=by simpa using hi
      refine call_pan 12 (f:=221) (args:=#[.pointer (some ⟨p,0,none⟩)]) (w':=wd) rfl rfl rfl (by go_simp) ((arm _ _ _ HPd.out).out.mono ?_)
      rintro e Z hq
      rw [HPT.out] at hq
      obtain ⟨rfl,hK4⟩:=hq.no
      exact .inr ⟨_,rfl,rfl,.mkN HR.out (HKd.out.trans hK4)⟩
     ·refine call_pan 12 (f:=221) (args:=#[.pointer (some ⟨p,0,none⟩)]) (w':=wd) rfl rfl rfl (by go_simp) ((arm _ _ _ HPd.out).out.mono ?_)
      rintro e Z hq
      rw [HPT.out] at hq
      obtain ⟨rfl,hK4⟩:=hq.no
      exact .inr ⟨_,rfl,rfl,.mkN HR.out (HKd.out.trans hK4)⟩
    |ok y M'=>
     have HPT:=Lib.hid hp
     obtain ⟨hA',hs',hl'⟩:=hA.out.step HFIT.out hop (by decide) hp
     have HA':=Lib.hid hA'
     have HS':Hid (M'<:+L):=Lib.hid (hs'.trans ((List.suffix_cons _ _).trans hS.out))
     have HL':=Lib.hid hl'
     clear hA hp hA' hs' hl' hop
     go_upto_region 4 with ((go_at_call 164;(with_reducible refine (may_as _ _ _ _ _ _ _ _ _ _ hP.out HMa).mono ?_);rintro e wna hq;obtain ⟨v,aa,cpna,rfl,rfl,hPn,hKn⟩:=hq.yes;have HPa:=Lib.hid hPn;have HKa:=Lib.hid (hK.out.trans hKn);have HXa:=Lib.hid (hX.out.keep hKn (by omega));have HZa:=Lib.hid (hZ.out.keep hKn (by omega));have HEa:=Lib.hid (hE.out.keep hKn (by omega));clear hPn hKn hq))
     have HP2:=HPa
     have HK2:=HKa
     have HX2:=HXa
     have HE2:=HEa
     have HZ2:=HZa
     generalize wna=wr2 at*
     obtain ⟨wd,hwd⟩:∃wd:World,wd={wr2 with drawn:=wr2.drawn+1}:=⟨_,rfl⟩
     have hbd:Below wr2.heap.size wr2 wd:=by rw [hwd];exact (Below.refl _ wr2).drew
     refine wp_region_held (S:=fun _=>True) (by kernel_rfl) ?_
     rw [←hwd]
     clear hwd
     have HPd:=Lib.hid (HP2.out.below hbd)
     have HKd:=Lib.hid (HK2.out.trans (.of_below hbd))
     have HXd:=Lib.hid (HX2.out.below hbd)
     have HZd:=Lib.hid (HZ2.out.below hbd)
     have HEd:=Lib.hid (HE2.out.below hbd)
     have hcd:=HXd.out
     have g0:=hcd.cell 0 rfl;have g1:=hcd.cell 1 rfl;have g2:=hcd.cell 2 rfl;have g3:=hcd.cell 3 rfl;have g4:=hcd.cell 4 rfl;have g5:=hcd.cell 5 rfl;have g6:=hcd.cell 6 rfl
     clear hcd hbd
     refine take_at' (i:=1) 11 (v:= .pointer (some ⟨p,0,none⟩)) rfl rfl (by kernel_rfl) (by kernel_rfl) (by kernel_rfl) (fun _ _ _ h=>h) (Or.inl ⟨by rfl,fun w' _=>by go_simp⟩) trivial ?_
     refine wpAnyH_all (rs:=[0,2]) (by kernel_rfl) (by simp) ?_
     intro i hi
     have hi2:i=0∨i=2:=by simpa using hi
     rcases hi2 with rfl|rfl
     ·refine value_at 10 (v:= .agg #[.int .i64 op3,.int .i64 nn3,.string s3,.slice p3 pl3 pc3,.slice q3 ql3 qc3,.bool o3,.slice k3 kl3 kc3]) (w':=wd) rfl rfl rfl (by go_simp) ⟨trivial,?_⟩
      refine wpAnyH_all (rs:=[2]) (by kernel_rfl) (by simp) ?_
      intro i hi
      obtain rfl:i=2:=by simpa using hi
      refine call_pan 12 (f:=221) (args:=#[.pointer (some ⟨p,0,none⟩)]) (w':=wd) rfl rfl rfl (by go_simp) ((arm _ _ _ HPd.out).out.mono ?_)
      rintro e Z hq
      rw [HPT.out] at hq
      obtain ⟨v,a4,cp4,rfl,hV,hP4,hK4⟩:=hq.yes
      obtain ⟨op4,nn4,s4,p4,pl4,pc4,q4,ql4,qc4,o4,k4,kl4,kc4,rfl,hX⟩:=hV.hd
      refine .inl ⟨_,rfl,trivial,?_⟩
      have hB4:=HXd.out.keep hK4 (by omega)
      have hZ4:=HZd.out.keep hK4 (by omega)
      have hE4:=HEd.out.keep hK4 (by omega)
      have c0:=hB4.cell 0 rfl;have c1:=hB4.cell 1 rfl;have c2:=hB4.cell 2 rfl;have c3:=hB4.cell 3 rfl;have c4:=hB4.cell 4 rfl;have c5:=hB4.cell 5 rfl;have c6:=hB4.cell 6 rfl;have cf:=hB4.fz
      refine wpAnyH_all (rs:=[3]) (by kernel_rfl) (by simp) ?_
      intro i hi
      obtain rfl:i=3:=by simpa using hi
      refine call_at 13 (f:=222) (args:=#[.int .i64 13,.agg #[.int .i64 op3,.int .i64 nn3,.string s3,.slice p3 pl3 pc3,.slice q3 ql3 qc3,.bool o3,.slice k3 kl3 kc3],.agg #[.int .i64 op4,.int .i64 nn4,.string s4,.slice p4 pl4 pc4,.slice q4 ql4 qc4,.bool o4,.slice k4 kl4 kc4]]) (w':=Z) rfl rfl rfl (by go_simp) ((two_any (fun b=>w.heap.size+1≤b∧b≠b3) Z 13 ⟨op3,nn3,s3,p3,pl3,pc3,q3,ql3,qc3,o3,k3,kl3,kc3⟩ ⟨op4,nn4,s4,p4,pl4,pc4,q4,ql4,qc4,o4,k4,kl4,kc4⟩ x y hE4 (hX.less (fun b lt hb=>⟨by have:=HZd.out.lt;omega,by have:=HXd.out.lt;omega⟩))).mono ?_)
      rintro e Y hq2
      obtain ⟨op5,nn5,s5,p5,pl5,pc5,q5,ql5,qc5,o5,k5,kl5,kc5,rfl,hX5,hB5⟩:=XB.hd hq2
      refine ⟨_,rfl,trivial,?_⟩
      have hBy:=hB4.below hB5
      have d0:=hBy.cell 0 rfl;have d1:=hBy.cell 1 rfl;have d2:=hBy.cell 2 rfl;have d3:=hBy.cell 3 rfl;have d4:=hBy.cell 4 rfl;have d5:=hBy.cell 5 rfl;have d6:=hBy.cell 6 rfl;have df:=hBy.fz
      refine wpAnyH_all (rs:=[4]) (by kernel_rfl) (by simp) ?_
      intro i hi
      obtain rfl:i=4:=by simpa using hi
      refine skip_at (w':=put7 Y b3 (.int .i64 op5) (.int .i64 nn5) (.string s5) (.slice p5 pl5 pc5) (.slice q5 ql5 qc5) (.bool o5) (.slice k5 kl5 kc5)) rfl rfl rfl (by unfold put7;go_simp) ⟨trivial,?_⟩
      refine wpAnyH_done (by kernel_rfl) ?_ _
      simp only [List.setIfInBounds_toArray,List.set_cons_succ,List.set_cons_zero]
      have hg:=put7_grown Y b3 (.int .i64 op5) (.int .i64 nn5) (.string s5) (.slice p5 pl5 pc5) (.slice q5 ql5 qc5) (.bool o5) (.slice k5 kl5 kc5)
      have HX6:=Lib.hid (put7_bx (v0:= .int .i64 op5) (v1:= .int .i64 nn5) (v2:= .string s5) (v3:= .slice p5 pl5 pc5) (v4:= .slice q5 ql5 qc5) (v5:= .bool o5) (v6:= .slice k5 kl5 kc5) hBy)
      have HE6:=Lib.hid (hX5.turn (Q:=fun b=>w.heap.size+1≤b∧b≠b3) hg.size (fun b lt hb=>by
       have hlt3:=hB4.lt
       have hkz:=HKd.out.size
       have hk4:=hK4.size
       have hb2:w.heap.size+1≤b∧b≠b3:=by omega
       exact ⟨hg.block b lt (fun e=>hb2.2 (by injection e)),hb2⟩))
      have HP6:=Lib.hid ((hP4.below hB5).grown hg (fun k e=>by cases e;omega))
      have HK6:=Lib.hid (((HKd.out.trans hK4).trans (.of_below hB5)).grown hg (fun k e=>by cases e;omega))
      have HZ6:Hid (Bx (put7 Y b3 (.int .i64 op5) (.int .i64 nn5) (.string s5) (.slice p5 pl5 pc5) (.slice q5 ql5 qc5) (.bool o5) (.slice k5 kl5 kc5)) w.heap.size #[.int .i64 0,.int .i64 0,.string ⟨#[]⟩,.slice none 0 0,.slice none 0 0,.bool false,.slice none 0 0] 35):=Lib.hid ((hg.block _ (hZ4.below hB5).lt (fun e=>by injection e with e;omega)).trans (hZ4.below hB5))
      generalize put7 Y b3 (.int .i64 op5) (.int .i64 nn5) (.string s5) (.slice p5 pl5 pc5) (.slice q5 ql5 qc5) (.bool o5) (.slice k5 kl5 kc5)=w6 at*
      clear hq hV hX hP4 hK4 hq2 hX5 hB5 hB4 hZ4 hE4 hBy hg c0 c1 c2 c3 c4 c5 c6 cf d0 d1 d2 d3 d4 d5 d6 df
      go_wp2_with fail
      go_roundw
      case rel=>exact ⟨two 13 x y,M',a4,cp4,⟨op5,nn5,s5,p5,pl5,pc5,q5,ql5,qc5,o5,k5,kl5,kc5⟩,HA',HS',HX6,HE6,HP6,HK6,HZ6⟩
      case measure=>rw [HP6.out.leftN,hP.out.leftN];exact HL'.out
     ·refine call_pan 12 (f:=221) (args:=#[.pointer (some ⟨p,0,none⟩)]) (w':=wd) rfl rfl rfl (by go_simp) ((arm _ _ _ HPd.out).out.mono ?_)
      rintro e Z hq
      rw [HPT.out] at hq
      obtain ⟨v,a4,cp4,rfl,hV,hP4,hK4⟩:=hq.yes
      obtain ⟨op4,nn4,s4,p4,pl4,pc4,q4,ql4,qc4,o4,k4,kl4,kc4,rfl,hX⟩:=hV.hd
      refine .inl ⟨_,rfl,trivial,?_⟩
      have hB4:=HXd.out.keep hK4 (by omega)
      have hZ4:=HZd.out.keep hK4 (by omega)
      have hE4:=HEd.out.keep hK4 (by omega)
      have c0:=hB4.cell 0 rfl;have c1:=hB4.cell 1 rfl;have c2:=hB4.cell 2 rfl;have c3:=hB4.cell 3 rfl;have c4:=hB4.cell 4 rfl;have c5:=hB4.cell 5 rfl;have c6:=hB4.cell 6 rfl;have cf:=hB4.fz
      refine wpAnyH_all (rs:=[0]) (by kernel_rfl) (by simp) ?_
      intro i hi
      obtain rfl:i=0:=by simpa using hi
      refine value_at 10 (v:= .agg #[.int .i64 op3,.int .i64 nn3,.string s3,.slice p3 pl3 pc3,.slice q3 ql3 qc3,.bool o3,.slice k3 kl3 kc3]) (w':=Z) rfl rfl rfl (by go_simp) ⟨trivial,?_⟩
      refine wpAnyH_all (rs:=[3]) (by kernel_rfl) (by simp) ?_
      intro i hi
      obtain rfl:i=3:=by simpa using hi
      refine call_at 13 (f:=222) (args:=#[.int .i64 13,.agg #[.int .i64 op3,.int .i64 nn3,.string s3,.slice p3 pl3 pc3,.slice q3 ql3 qc3,.bool o3,.slice k3 kl3 kc3],.agg #[.int .i64 op4,.int .i64 nn4,.string s4,.slice p4 pl4 pc4,.slice q4 ql4 qc4,.bool o4,.slice k4 kl4 kc4]]) (w':=Z) rfl rfl rfl (by go_simp) ((two_any (fun b=>w.heap.size+1≤b∧b≠b3) Z 13 ⟨op3,nn3,s3,p3,pl3,pc3,q3,ql3,qc3,o3,k3,kl3,kc3⟩ ⟨op4,nn4,s4,p4,pl4,pc4,q4,ql4,qc4,o4,k4,kl4,kc4⟩ x y hE4 (hX.less (fun b lt hb=>⟨by have:=HZd.out.lt;omega,by have:=HXd.out.lt;omega⟩))).mono ?_)
      rintro e Y hq2
      obtain ⟨op5,nn5,s5,p5,pl5,pc5,q5,ql5,qc5,o5,k5,kl5,kc5,rfl,hX5,hB5⟩:=XB.hd hq2
      refine ⟨_,rfl,trivial,?_⟩
      have hBy:=hB4.below hB5
      have d0:=hBy.cell 0 rfl;have d1:=hBy.cell 1 rfl;have d2:=hBy.cell 2 rfl;have d3:=hBy.cell 3 rfl;have d4:=hBy.cell 4 rfl;have d5:=hBy.cell 5 rfl;have d6:=hBy.cell 6 rfl;have df:=hBy.fz
      refine wpAnyH_all (rs:=[4]) (by kernel_rfl) (by simp) ?_
      intro i hi
      obtain rfl:i=4:=by simpa using hi
      refine skip_at (w':=put7 Y b3 (.int .i64 op5) (.int .i64 nn5) (.string s5) (.slice p5 pl5 pc5) (.slice q5 ql5 qc5) (.bool o5) (.slice k5 kl5 kc5)) rfl rfl rfl (by unfold put7;go_simp) ⟨trivial,?_⟩
      refine wpAnyH_done (by kernel_rfl) ?_ _
      simp only [List.setIfInBounds_toArray,List.set_cons_succ,List.set_cons_zero]
      have hg:=put7_grown Y b3 (.int .i64 op5) (.int .i64 nn5) (.string s5) (.slice p5 pl5 pc5) (.slice q5 ql5 qc5) (.bool o5) (.slice k5 kl5 kc5)
      have HX6:=Lib.hid (put7_bx (v0:= .int .i64 op5) (v1:= .int .i64 nn5) (v2:= .string s5) (v3:= .slice p5 pl5 pc5) (v4:= .slice q5 ql5 qc5) (v5:= .bool o5) (v6:= .slice k5 kl5 kc5) hBy)
      have HE6:=Lib.hid (hX5.turn (Q:=fun b=>w.heap.size+1≤b∧b≠b3) hg.size (fun b lt hb=>by
       have hlt3:=hB4.lt
       have hkz:=HKd.out.size
       have hk4:=hK4.size
       have hb2:w.heap.size+1≤b∧b≠b3:=by omega
       exact ⟨hg.block b lt (fun e=>hb2.2 (by injection e)),hb2⟩))
      have HP6:=Lib.hid ((hP4.below hB5).grown hg (fun k e=>by cases e;omega))
      have HK6:=Lib.hid (((HKd.out.trans hK4).trans (.of_below hB5)).grown hg (fun k e=>by cases e;omega))
      have HZ6:Hid (Bx (put7 Y b3 (.int .i64 op5) (.int .i64 nn5) (.string s5) (.slice p5 pl5 pc5) (.slice q5 ql5 qc5) (.bool o5) (.slice k5 kl5 kc5)) w.heap.size #[.int .i64 0,.int .i64 0,.string ⟨#[]⟩,.slice none 0 0,.slice none 0 0,.bool false,.slice none 0 0] 35):=Lib.hid ((hg.block _ (hZ4.below hB5).lt (fun e=>by injection e with e;omega)).trans (hZ4.below hB5))
      generalize put7 Y b3 (.int .i64 op5) (.int .i64 nn5) (.string s5) (.slice p5 pl5 pc5) (.slice q5 ql5 qc5) (.bool o5) (.slice k5 kl5 kc5)=w6 at*
      clear hq hV hX hP4 hK4 hq2 hX5 hB5 hB4 hZ4 hE4 hBy hg c0 c1 c2 c3 c4 c5 c6 cf d0 d1 d2 d3 d4 d5 d6 df
      go_wp2_with fail
      go_roundw
      case rel=>exact ⟨two 13 x y,M',a4,cp4,⟨op5,nn5,s5,p5,pl5,pc5,q5,ql5,qc5,o5,k5,kl5,kc5⟩,HA',HS',HX6,HE6,HP6,HK6,HZ6⟩
      case measure=>rw [HP6.out.leftN,hP.out.leftN];exact HL'.out
   |false=>
    have HMa:Hid (isB (ByteArray.toList ⟨#[43]⟩) M=false∧(if false then M.tail else M)=M):=Lib.hid ⟨(isL [43] M).trans hba,rfl⟩
    cases hbb:isB [45] M with
    |false=>
     have HMb:Hid (isB (ByteArray.toList ⟨#[45]⟩) M=false∧(if false then M.tail else M)=M):=Lib.hid ⟨(isL [45] M).trans hbb,rfl⟩
     have HR:=Lib.hid (hA.out.last (by unfold opOf;rw [if_pos rfl,hba,hbb];rfl))
     clear hA hba hbb
     go_wp2_with (first|(go_at_call 164;(with_reducible refine (may_as _ _ _ _ _ _ _ _ _ _ hP.out HMa).mono ?_);rintro e wna hq;obtain ⟨v,aa,cpna,rfl,rfl,hPn,hKn⟩:=hq.yes;have HPa:=Lib.hid hPn;have HKa:=Lib.hid (hK.out.trans hKn);have HXa:=Lib.hid (hX.out.keep hKn (by omega));have HZa:=Lib.hid (hZ.out.keep hKn (by omega));have HEa:=Lib.hid (hE.out.keep hKn (by omega));clear hPn hKn hq)|(go_at_call 164;(with_reducible refine (may_as _ _ _ _ _ _ _ _ _ _ HPa.out HMb).mono ?_);rintro e wnb hq;obtain ⟨v,ab,cpnb,rfl,rfl,hPn,hKn⟩:=hq.yes;have HPb:=Lib.hid hPn;have HKb:=Lib.hid (HKa.out.trans hKn);have HXb:=Lib.hid (HXa.out.keep hKn (by omega));have HZb:=Lib.hid (HZa.out.keep hKn (by omega));have HEb:=Lib.hid (HEa.out.keep hKn (by omega));have q3:=HZb.out;have m0:=q3.cell 0 rfl;have m1:=q3.cell 1 rfl;have m2:=q3.cell 2 rfl;have m3:=q3.cell 3 rfl;have m4:=q3.cell 4 rfl;have m5:=q3.cell 5 rfl;have m6:=q3.cell 6 rfl;have mf:=q3.fz;have q4:=HXb.out;have c0:=q4.cell 0 rfl;have c1:=q4.cell 1 rfl;have c2:=q4.cell 2 rfl;have c3:=q4.cell 3 rfl;have c4:=q4.cell 4 rfl;have c5:=q4.cell 5 rfl;have c6:=q4.cell 6 rfl;clear q3 q4;clear hPn hKn hq))
     refine bodyPost_ret (v:= .agg #[.int .i64 op3,.int .i64 nn3,.string s3,.slice p3 pl3 pc3,.slice q3 ql3 qc3,.bool o3,.slice k3 kl3 kc3]) (by simp [results,Tryz.results207,go_sem,m0,m1,m2,m3,m4,m5,m6]) rfl ?_
     have hg:=put7_grown wnb w.heap.size (.int .i64 op3) (.int .i64 nn3) (.string s3) (.slice p3 pl3 pc3) (.slice q3 ql3 qc3) (.bool o3) (.slice k3 kl3 kc3)
     exact .mkY HR.out ⟨⟨op3,nn3,s3,p3,pl3,pc3,q3,ql3,qc3,o3,k3,kl3,kc3⟩,rfl,HEb.out.turn hg.size (fun b lt hb=>⟨hg.block b lt (fun e=>by injection e with e;omega),by omega⟩)⟩ (HPb.out.grown hg (fun k e=>by cases e;exact hpl)) (HKb.out.grown hg (fun k e=>by cases e;exact Nat.le_refl _))
    |true=>
     have HMb:Hid (isB (ByteArray.toList ⟨#[45]⟩) M=true∧(if true then M.tail else M)=M.tail):=Lib.hid ⟨(isL [45] M).trans hbb,rfl⟩
     obtain ⟨t,T,rfl,_,_⟩:=isB_cons hbb
     have hop:opOf 3 (t::T)=14:=by unfold opOf;rw [if_pos rfl,hba,hbb];rfl
     have hTL:T.length≤L.length:=by have:=hS.out.length_le;simp at this;omega
     have arm:=fun (W:World) (a:Option Addr) (cap:Nat) (hP:Prs W p a cap T E o)=>Lib.hid (HASK.out W a cap T hTL hP)
     cases hp:part T with
     |bad x y=>
      have HPT:=Lib.hid hp
      have HR:=Lib.hid (hA.out.bad hop (by decide) hp)
      clear hA hp hop
      go_upto_region 6 with (first|(go_at_call 164;(with_reducible refine (may_as _ _ _ _ _ _ _ _ _ _ hP.out HMa).mono ?_);rintro e wna hq;obtain ⟨v,aa,cpna,rfl,rfl,hPn,hKn⟩:=hq.yes;have HPa:=Lib.hid hPn;have HKa:=Lib.hid (hK.out.trans hKn);have HXa:=Lib.hid (hX.out.keep hKn (by omega));have HZa:=Lib.hid (hZ.out.keep hKn (by omega));have HEa:=Lib.hid (hE.out.keep hKn (by omega));clear hPn hKn hq)|(go_at_call 164;(with_reducible refine (may_as _ _ _ _ _ _ _ _ _ _ HPa.out HMb).mono ?_);rintro e wnb hq;obtain ⟨v,ab,cpnb,rfl,rfl,hPn,hKn⟩:=hq.yes;have HPb:=Lib.hid hPn;have HKb:=Lib.hid (HKa.out.trans hKn);have HXb:=Lib.hid (HXa.out.keep hKn (by omega));have HZb:=Lib.hid (HZa.out.keep hKn (by omega));have HEb:=Lib.hid (HEa.out.keep hKn (by omega));clear hPn hKn hq))
      have HP2:=HPb
      have HK2:=HKb
      have HX2:=HXb
      have HE2:=HEb
      have HZ2:=HZb
      generalize wnb=wr2 at*
      obtain ⟨wd,hwd⟩:∃wd:World,wd={wr2 with drawn:=wr2.drawn+1}:=⟨_,rfl⟩
      have hbd:Below wr2.heap.size wr2 wd:=by rw [hwd];exact (Below.refl _ wr2).drew
      refine wp_region_held (S:=fun _=>True) (by kernel_rfl) ?_
      rw [←hwd]
      clear hwd
      have HPd:=Lib.hid (HP2.out.below hbd)
      have HKd:=Lib.hid (HK2.out.trans (.of_below hbd))
      have HXd:=Lib.hid (HX2.out.below hbd)
      have HZd:=Lib.hid (HZ2.out.below hbd)
      have HEd:=Lib.hid (HE2.out.below hbd)
      have hcd:=HXd.out
      have g0:=hcd.cell 0 rfl;have g1:=hcd.cell 1 rfl;have g2:=hcd.cell 2 rfl;have g3:=hcd.cell 3 rfl;have g4:=hcd.cell 4 rfl;have g5:=hcd.cell 5 rfl;have g6:=hcd.cell 6 rfl
      clear hcd hbd
      refine take_at' (i:=1) 18 (v:= .pointer (some ⟨p,0,none⟩)) rfl rfl (by kernel_rfl) (by kernel_rfl) (by kernel_rfl) (fun _ _ _ h=>h) (Or.inl ⟨by rfl,fun w' _=>by go_simp⟩) trivial ?_
      refine wpAnyH_all (rs:=[0,2]) (by kernel_rfl) (by simp) ?_
      intro i hi
      have hi2:i=0∨i=2:=by simpa using hi
      rcases hi2 with rfl|rfl
      ·refine value_at 17 (v:= .agg #[.int .i64 op3,.int .i64 nn3,.string s3,.slice p3 pl3 pc3,.slice q3 ql3 qc3,.bool o3,.slice k3 kl3 kc3]) (w':=wd) rfl rfl rfl (by go_simp) ⟨trivial,?_⟩
       refine wpAnyH_all (rs:=[2]) (by kernel_rfl) (by simp) ?_
       intro i hi
       obtain rfl:i=2:=by simpa using hi
       refine call_pan 19 (f:=221) (args:=#[.pointer (some ⟨p,0,none⟩)]) (w':=wd) rfl rfl rfl (by go_simp) ((arm _ _ _ HPd.out).out.mono ?_)
       rintro e Z hq
       rw [HPT.out] at hq
       obtain ⟨rfl,hK4⟩:=hq.no
       exact .inr ⟨_,rfl,rfl,.mkN HR.out (HKd.out.trans hK4)⟩
      ·refine call_pan 19 (f:=221) (args:=#[.pointer (some ⟨p,0,none⟩)]) (w':=wd) rfl rfl rfl (by go_simp) ((arm _ _ _ HPd.out).out.mono ?_)
       rintro e Z hq
       rw [HPT.out] at hq
       obtain ⟨rfl,hK4⟩:=hq.no
       exact .inr ⟨_,rfl,rfl,.mkN HR.out (HKd.out.trans hK4)⟩
     |ok y M'=>
      have HPT:=Lib.hid hp
      obtain ⟨hA',hs',hl'⟩:=hA.out.step HFIT.out hop (by decide) hp
      have HA':=Lib.hid hA'
      have HS':Hid (M'<:+L):=Lib.hid (hs'.trans ((List.suffix_cons _ _).trans hS.out))
      have HL':=Lib.hid hl'
      clear hA hp hA' hs' hl' hop
      go_upto_region 6 with (first|(go_at_call 164;(with_reducible refine (may_as _ _ _ _ _ _ _ _ _ _ hP.out HMa).mono ?_);rintro e wna hq;obtain ⟨v,aa,cpna,rfl,rfl,hPn,hKn⟩:=hq.yes;have HPa:=Lib.hid hPn;have HKa:=Lib.hid (hK.out.trans hKn);have HXa:=Lib.hid (hX.out.keep hKn (by omega));have HZa:=Lib.hid (hZ.out.keep hKn (by omega));have HEa:=Lib.hid (hE.out.keep hKn (by omega));clear hPn hKn hq)|(go_at_call 164;(with_reducible refine (may_as _ _ _ _ _ _ _ _ _ _ HPa.out HMb).mono ?_);rintro e wnb hq;obtain ⟨v,ab,cpnb,rfl,rfl,hPn,hKn⟩:=hq.yes;have HPb:=Lib.hid hPn;have HKb:=Lib.hid (HKa.out.trans hKn);have HXb:=Lib.hid (HXa.out.keep hKn (by omega));have HZb:=Lib.hid (HZa.out.keep hKn (by omega));have HEb:=Lib.hid (HEa.out.keep hKn (by omega));clear hPn hKn hq))
      have HP2:=HPb
      have HK2:=HKb
      have HX2:=HXb
      have HE2:=HEb
      have HZ2:=HZb
      generalize wnb=wr2 at*
      obtain ⟨wd,hwd⟩:∃wd:World,wd={wr2 with drawn:=wr2.drawn+1}:=⟨_,rfl⟩
      have hbd:Below wr2.heap.size wr2 wd:=by rw [hwd];exact (Below.refl _ wr2).drew
      refine wp_region_held (S:=fun _=>True) (by kernel_rfl) ?_
      rw [←hwd]
      clear hwd
      have HPd:=Lib.hid (HP2.out.below hbd)
      have HKd:=Lib.hid (HK2.out.trans (.of_below hbd))
      have HXd:=Lib.hid (HX2.out.below hbd)
      have HZd:=Lib.hid (HZ2.out.below hbd)
      have HEd:=Lib.hid (HE2.out.below hbd)
      have hcd:=HXd.out
      have g0:=hcd.cell 0 rfl;have g1:=hcd.cell 1 rfl;have g2:=hcd.cell 2 rfl;have g3:=hcd.cell 3 rfl;have g4:=hcd.cell 4 rfl;have g5:=hcd.cell 5 rfl;have g6:=hcd.cell 6 rfl
      clear hcd hbd
      refine take_at' (i:=1) 18 (v:= .pointer (some ⟨p,0,none⟩)) rfl rfl (by kernel_rfl) (by kernel_rfl) (by kernel_rfl) (fun _ _ _ h=>h) (Or.inl ⟨by rfl,fun w' _=>by go_simp⟩) trivial ?_
      refine wpAnyH_all (rs:=[0,2]) (by kernel_rfl) (by simp) ?_
      intro i hi
      have hi2:i=0∨i=2:=by simpa using hi
      rcases hi2 with rfl|rfl
      ·refine value_at 17 (v:= .agg #[.int .i64 op3,.int .i64 nn3,.string s3,.slice p3 pl3 pc3,.slice q3 ql3 qc3,.bool o3,.slice k3 kl3 kc3]) (w':=wd) rfl rfl rfl (by go_simp) ⟨trivial,?_⟩
       refine wpAnyH_all (rs:=[2]) (by kernel_rfl) (by simp) ?_
       intro i hi
       obtain rfl:i=2:=by simpa using hi
       refine call_pan 19 (f:=221) (args:=#[.pointer (some ⟨p,0,none⟩)]) (w':=wd) rfl rfl rfl (by go_simp) ((arm _ _ _ HPd.out).out.mono ?_)
       rintro e Z hq
       rw [HPT.out] at hq
       obtain ⟨v,a4,cp4,rfl,hV,hP4,hK4⟩:=hq.yes
       obtain ⟨op4,nn4,s4,p4,pl4,pc4,q4,ql4,qc4,o4,k4,kl4,kc4,rfl,hX⟩:=hV.hd
       refine .inl ⟨_,rfl,trivial,?_⟩
       have hB4:=HXd.out.keep hK4 (by omega)
       have hZ4:=HZd.out.keep hK4 (by omega)
       have hE4:=HEd.out.keep hK4 (by omega)
       have c0:=hB4.cell 0 rfl;have c1:=hB4.cell 1 rfl;have c2:=hB4.cell 2 rfl;have c3:=hB4.cell 3 rfl;have c4:=hB4.cell 4 rfl;have c5:=hB4.cell 5 rfl;have c6:=hB4.cell 6 rfl;have cf:=hB4.fz
       refine wpAnyH_all (rs:=[3]) (by kernel_rfl) (by simp) ?_
       intro i hi
       obtain rfl:i=3:=by simpa using hi
       refine call_at 20 (f:=222) (args:=#[.int .i64 14,.agg #[.int .i64 op3,.int .i64 nn3,.string s3,.slice p3 pl3 pc3,.slice q3 ql3 qc3,.bool o3,.slice k3 kl3 kc3],.agg #[.int .i64 op4,.int .i64 nn4,.string s4,.slice p4 pl4 pc4,.slice q4 ql4 qc4,.bool o4,.slice k4 kl4 kc4]]) (w':=Z) rfl rfl rfl (by go_simp) ((two_any (fun b=>w.heap.size+1≤b∧b≠b3) Z 14 ⟨op3,nn3,s3,p3,pl3,pc3,q3,ql3,qc3,o3,k3,kl3,kc3⟩ ⟨op4,nn4,s4,p4,pl4,pc4,q4,ql4,qc4,o4,k4,kl4,kc4⟩ x y hE4 (hX.less (fun b lt hb=>⟨by have:=HZd.out.lt;omega,by have:=HXd.out.lt;omega⟩))).mono ?_)
       rintro e Y hq2
       obtain ⟨op5,nn5,s5,p5,pl5,pc5,q5,ql5,qc5,o5,k5,kl5,kc5,rfl,hX5,hB5⟩:=XB.hd hq2
       refine ⟨_,rfl,trivial,?_⟩
       have hBy:=hB4.below hB5
       have d0:=hBy.cell 0 rfl;have d1:=hBy.cell 1 rfl;have d2:=hBy.cell 2 rfl;have d3:=hBy.cell 3 rfl;have d4:=hBy.cell 4 rfl;have d5:=hBy.cell 5 rfl;have d6:=hBy.cell 6 rfl;have df:=hBy.fz
       refine wpAnyH_all (rs:=[4]) (by kernel_rfl) (by simp) ?_
       intro i hi
       obtain rfl:i=4:=by simpa using hi
       refine skip_at (w':=put7 Y b3 (.int .i64 op5) (.int .i64 nn5) (.string s5) (.slice p5 pl5 pc5) (.slice q5 ql5 qc5) (.bool o5) (.slice k5 kl5 kc5)) rfl rfl rfl (by unfold put7;go_simp) ⟨trivial,?_⟩
       refine wpAnyH_done (by kernel_rfl) ?_ _
       simp only [List.setIfInBounds_toArray,List.set_cons_succ,List.set_cons_zero]
       have hg:=put7_grown Y b3 (.int .i64 op5) (.int .i64 nn5) (.string s5) (.slice p5 pl5 pc5) (.slice q5 ql5 qc5) (.bool o5) (.slice k5 kl5 kc5)
       have HX6:=Lib.hid (put7_bx (v0:= .int .i64 op5) (v1:= .int .i64 nn5) (v2:= .string s5) (v3:= .slice p5 pl5 pc5) (v4:= .slice q5 ql5 qc5) (v5:= .bool o5) (v6:= .slice k5 kl5 kc5) hBy)
       have HE6:=Lib.hid (hX5.turn (Q:=fun b=>w.heap.size+1≤b∧b≠b3) hg.size (fun b lt hb=>by
        have hlt3:=hB4.lt
        have hkz:=HKd.out.size
        have hk4:=hK4.size
        have hb2:w.heap.size+1≤b∧b≠b3:=by omega
        exact ⟨hg.block b lt (fun e=>hb2.2 (by injection e)),hb2⟩))
       have HP6:=Lib.hid ((hP4.below hB5).grown hg (fun k e=>by cases e;omega))
       have HK6:=Lib.hid (((HKd.out.trans hK4).trans (.of_below hB5)).grown hg (fun k e=>by cases e;omega))
       have HZ6:Hid (Bx (put7 Y b3 (.int .i64 op5) (.int .i64 nn5) (.string s5) (.slice p5 pl5 pc5) (.slice q5 ql5 qc5) (.bool o5) (.slice k5 kl5 kc5)) w.heap.size #[.int .i64 0,.int .i64 0,.string ⟨#[]⟩,.slice none 0 0,.slice none 0 0,.bool false,.slice none 0 0] 35):=Lib.hid ((hg.block _ (hZ4.below hB5).lt (fun e=>by injection e with e;omega)).trans (hZ4.below hB5))
       generalize put7 Y b3 (.int .i64 op5) (.int .i64 nn5) (.string s5) (.slice p5 pl5 pc5) (.slice q5 ql5 qc5) (.bool o5) (.slice k5 kl5 kc5)=w6 at*
       clear hq hV hX hP4 hK4 hq2 hX5 hB5 hB4 hZ4 hE4 hBy hg c0 c1 c2 c3 c4 c5 c6 cf d0 d1 d2 d3 d4 d5 d6 df
       go_wp2_with fail
       go_roundw
       case rel=>exact ⟨two 14 x y,M',a4,cp4,⟨op5,nn5,s5,p5,pl5,pc5,q5,ql5,qc5,o5,k5,kl5,kc5⟩,HA',HS',HX6,HE6,HP6,HK6,HZ6⟩
       case measure=>rw [HP6.out.leftN,hP.out.leftN];exact HL'.out
      ·refine call_pan 19 (f:=221) (args:=#[.pointer (some ⟨p,0,none⟩)]) (w':=wd) rfl rfl rfl (by go_simp) ((arm _ _ _ HPd.out).out.mono ?_)
       rintro e Z hq
       rw [HPT.out] at hq
       obtain ⟨v,a4,cp4,rfl,hV,hP4,hK4⟩:=hq.yes
       obtain ⟨op4,nn4,s4,p4,pl4,pc4,q4,ql4,qc4,o4,k4,kl4,kc4,rfl,hX⟩:=hV.hd
       refine .inl ⟨_,rfl,trivial,?_⟩
       have hB4:=HXd.out.keep hK4 (by omega)
       have hZ4:=HZd.out.keep hK4 (by omega)
       have hE4:=HEd.out.keep hK4 (by omega)
       have c0:=hB4.cell 0 rfl;have c1:=hB4.cell 1 rfl;have c2:=hB4.cell 2 rfl;have c3:=hB4.cell 3 rfl;have c4:=hB4.cell 4 rfl;have c5:=hB4.cell 5 rfl;have c6:=hB4.cell 6 rfl;have cf:=hB4.fz
       refine wpAnyH_all (rs:=[0]) (by kernel_rfl) (by simp) ?_
       intro i hi
       obtain rfl:i=0:=by simpa using hi
       refine value_at 17 (v:= .agg #[.int .i64 op3,.int .i64 nn3,.string s3,.slice p3 pl3 pc3,.slice q3 ql3 qc3,.bool o3,.slice k3 kl3 kc3]) (w':=Z) rfl rfl rfl (by go_simp) ⟨trivial,?_⟩
       refine wpAnyH_all (rs:=[3]) (by kernel_rfl) (by simp) ?_
       intro i hi
       obtain rfl:i=3:=by simpa using hi
       refine call_at 20 (f:=222) (args:=#[.int .i64 14,.agg #[.int .i64 op3,.int .i64 nn3,.string s3,.slice p3 pl3 pc3,.slice q3 ql3 qc3,.bool o3,.slice k3 kl3 kc3],.agg #[.int .i64 op4,.int .i64 nn4,.string s4,.slice p4 pl4 pc4,.slice q4 ql4 qc4,.bool o4,.slice k4 kl4 kc4]]) (w':=Z) rfl rfl rfl (by go_simp) ((two_any (fun b=>w.heap.size+1≤b∧b≠b3) Z 14 ⟨op3,nn3,s3,p3,pl3,pc3,q3,ql3,qc3,o3,k3,kl3,kc3⟩ ⟨op4,nn4,s4,p4,pl4,pc4,q4,ql4,qc4,o4,k4,kl4,kc4⟩ x y hE4 (hX.less (fun b lt hb=>⟨by have:=HZd.out.lt;omega,by have:=HXd.out.lt;omega⟩))).mono ?_)
       rintro e Y hq2
       obtain ⟨op5,nn5,s5,p5,pl5,pc5,q5,ql5,qc5,o5,k5,kl5,kc5,rfl,hX5,hB5⟩:=XB.hd hq2
       refine ⟨_,rfl,trivial,?_⟩
       have hBy:=hB4.below hB5
       have d0:=hBy.cell 0 rfl;have d1:=hBy.cell 1 rfl;have d2:=hBy.cell 2 rfl;have d3:=hBy.cell 3 rfl;have d4:=hBy.cell 4 rfl;have d5:=hBy.cell 5 rfl;have d6:=hBy.cell 6 rfl;have df:=hBy.fz
       refine wpAnyH_all (rs:=[4]) (by kernel_rfl) (by simp) ?_
       intro i hi
       obtain rfl:i=4:=by simpa using hi
       refine skip_at (w':=put7 Y b3 (.int .i64 op5) (.int .i64 nn5) (.string s5) (.slice p5 pl5 pc5) (.slice q5 ql5 qc5) (.bool o5) (.slice k5 kl5 kc5)) rfl rfl rfl (by unfold put7;go_simp) ⟨trivial,?_⟩
       refine wpAnyH_done (by kernel_rfl) ?_ _
       simp only [List.setIfInBounds_toArray,List.set_cons_succ,List.set_cons_zero]
       have hg:=put7_grown Y b3 (.int .i64 op5) (.int .i64 nn5) (.string s5) (.slice p5 pl5 pc5) (.slice q5 ql5 qc5) (.bool o5) (.slice k5 kl5 kc5)
       have HX6:=Lib.hid (put7_bx (v0:= .int .i64 op5) (v1:= .int .i64 nn5) (v2:= .string s5) (v3:= .slice p5 pl5 pc5) (v4:= .slice q5 ql5 qc5) (v5:= .bool o5) (v6:= .slice k5 kl5 kc5) hBy)
       have HE6:=Lib.hid (hX5.turn (Q:=fun b=>w.heap.size+1≤b∧b≠b3) hg.size (fun b lt hb=>by
        have hlt3:=hB4.lt
        have hkz:=HKd.out.size
        have hk4:=hK4.size
        have hb2:w.heap.size+1≤b∧b≠b3:=by omega
        exact ⟨hg.block b lt (fun e=>hb2.2 (by injection e)),hb2⟩))
       have HP6:=Lib.hid ((hP4.below hB5).grown hg (fun k e=>by cases e;omega))
       have HK6:=Lib.hid (((HKd.out.trans hK4).trans (.of_below hB5)).grown hg (fun k e=>by cases e;omega))
       have HZ6:Hid (Bx (put7 Y b3 (.int .i64 op5) (.int .i64 nn5) (.string s5) (.slice p5 pl5 pc5) (.slice q5 ql5 qc5) (.bool o5) (.slice k5 kl5 kc5)) w.heap.size #[.int .i64 0,.int .i64 0,.string ⟨#[]⟩,.slice none 0 0,.slice none 0 0,.bool false,.slice none 0 0] 35):=Lib.hid ((hg.block _ (hZ4.below hB5).lt (fun e=>by injection e with e;omega)).trans (hZ4.below hB5))
       generalize put7 Y b3 (.int .i64 op5) (.int .i64 nn5) (.string s5) (.slice p5 pl5 pc5) (.slice q5 ql5 qc5) (.bool o5) (.slice k5 kl5 kc5)=w6 at*
       clear hq hV hX hP4 hK4 hq2 hX5 hB5 hB4 hZ4 hE4 hBy hg c0 c1 c2 c3 c4 c5 c6 cf d0 d1 d2 d3 d4 d5 d6 df
       go_wp2_with fail
       go_roundw
       case rel=>exact ⟨two 14 x y,M',a4,cp4,⟨op5,nn5,s5,p5,pl5,pc5,q5,ql5,qc5,o5,k5,kl5,kc5⟩,HA',HS',HX6,HE6,HP6,HK6,HZ6⟩
       case measure=>rw [HP6.out.leftN,hP.out.leftN];exact HL'.out
end Go.Proofs.YtkfihhagcimcmaaGreatDoor.Ps
