/- Qzb, Qzd -/
import Derived.Test.YtkfihhagcimcmaaGreatDoorChecked
import Derived.Test.YtkfihhagcimcmaaGreatDoorProg
import Derived.Test.YtkfihhagcimcmaaGreatDoorY1
import Derived.Test.YtkfihhagcimcmaaGreatDoorYak
import Derived.Test.YtkfihhagcimcmaaGreatDoorYbf
namespace Go.Proofs.YtkfihhagcimcmaaGreatDoor.Ps
open Go.RowKit
theorem dx_len (y:DX):y.cells.length=9:=rfl
theorem dcells_get:∀(L:List DX) (i j:Nat) (h:i<L.length),j<9→(dcells L)[i*9+j]?=(L[i].cells)[j]?
 |y::L,0,j,_,hj=>by
  rw [show dcells (y::L)=y.cells++dcells L by simp [dcells]]
  rw [List.getElem?_append_left (by rw [dx_len];omega)]
  simp
 |y::L,i+1,j,h,hj=>by
  rw [show dcells (y::L)=y.cells++dcells L by simp [dcells]]
  rw [List.getElem?_append_right (by rw [dx_len];omega),dx_len]
  rw [show (i+1)*9+j-9=i*9+j by omega]
  exact dcells_get L i j (by simpa using h) hj
structure DRow (w:World) (a:Option Addr) (L:List DX):Prop where
 at_:∀i (h:i<L.length),∃g off,a=some ⟨g,off,none⟩∧g<w.heap.size∧w.cell? ⟨g,off+i*9,none⟩=some (.string L[i].2.nm)∧w.cell? ⟨g,off+i*9+1,none⟩=some (.bool L[i].2.r)∧HdAt w g (off+i*9+2) L[i].1
 els:∀y∈L,XW w y.1 y.2.x
theorem DRow.below {w w':World} {a:Option Addr} {L:List DX} (h:DRow w a L) (hb:Below w.heap.size w w'):DRow w' a L:=
 ⟨fun i hi=>by
  obtain ⟨g,off,e,lt,h0,h1,h2⟩:=h.at_ i hi
  exact ⟨g,off,e,by have:=hb.size;omega,(hb.cell (p:=⟨g,off+i*9,none⟩) lt).trans h0,(hb.cell (p:=⟨g,off+i*9+1,none⟩) lt).trans h1,h2.below hb lt⟩,fun y hy=>(h.els y hy).below hb⟩
theorem VL.drow {B:Nat} {w:World} {l:List De} {v:Value} (h:VL B w l v):∃a c L,v= .slice a L.length c∧L.map (·.2)=l∧L.length≤256∧DRow w a L:=by
 obtain ⟨L,hm,h256,hown,hels,-⟩:=h
 obtain ⟨a,c,rfl⟩:=own_sliceD hown
 refine ⟨a,c,L,rfl,hm,h256,fun i hi=>?_,fun y hy=>(hels y hy).xw⟩
 rcases hown.2 with ⟨e1,hn0⟩|⟨g,cap,cur,e1,hb1,hg,rest⟩
 ·omega
 ·injection e1 with e2 e3 e4
  subst e2 e4
  have hc:∀j k v,k=0+i*9+j→(L[i].cells)[j]?=some v→w.cell? ⟨g,k,none⟩=some v:=fun j k v hk hj=>by
   have hj9:j<9:=by have:=(List.getElem?_eq_some_iff.1 hj).1;rw [dx_len] at this;exact this
   rw [show k=i*9+j by omega,show (⟨g,i*9+j,none⟩:Addr)=(⟨g,0,none⟩:Addr).add (i*9+j) by simp [Addr.add]]
   exact hown.cells (g:=g) rfl _ v (by rw [dcells_get L i j hi hj9];exact hj)
  refine ⟨g,0,rfl,(Array.getElem?_eq_some_iff.1 hg).1,hc 0 _ _ (by omega) rfl,hc 1 _ _ (by omega) rfl,?_⟩
  exact ⟨hc 2 _ _ (by omega) rfl,hc 3 _ _ (by omega) rfl,hc 4 _ _ (by omega) rfl,hc 5 _ _ (by omega) rfl,hc 6 _ _ (by omega) rfl,hc 7 _ _ (by omega) rfl,hc 8 _ _ (by omega) rfl⟩
def PLQ (R:List De×Int×Int) (w:World) (e:Ending) (w':World):Prop:=∃a c L,e= .returned (.tuple #[.slice a L.length c,.int .i64 R.2.1,.int .i64 R.2.2])∧L.map (·.2)=R.1∧L.length≤256∧DRow w' a L∧Below w.heap.size w w'
theorem plq_of {R:List De×Int×Int} {w w':World} {e:Ending} (h:ParseQ VL R w e w'):PLQ R w e w':=by
 obtain ⟨v,B,rfl,hB,hv,hb⟩:=h
 obtain ⟨a,c,L,rfl,hm,hl,hr⟩:=hv.drow
 exact ⟨a,c,L,rfl,hm,hl,hr,hb⟩
end Go.Proofs.YtkfihhagcimcmaaGreatDoor.Ps
namespace Go.Proofs.YtkfihhagcimcmaaGreatDoor.Ps
open Go.RowKit
theorem rsame_as (w0:World) (h h':Hd) (x:Ex) (w:World) (hx:XW w0 h x) (hy:XW w0 h' x) (hb:Below w0.heap.size w0 w):Calls Tryz.prog 20 #[h.agg,h'.agg] w (Ans (.bool true) w):=by
 have h1:=rsame_any w0 _ _ h h' x x w hx hy hb
 rw [eqB_yes rfl] at h1
 exact h1.mono fun e w' ⟨h1,h2⟩=>⟨h1,h2⟩
set_option maxRecDepth 100000 in
set_option maxHeartbeats 8000000 in
theorem dsame_any (L1 L2:List DX) (a1 a2:Option Addr) (c1 c2:Nat) (w:World) (h1:DRow w a1 L1) (h2:DRow w a2 L2) (he:L1.map (·.2)=L2.map (·.2)) (h256:L1.length≤256):Calls Tryz.prog 17 #[.slice a1 L1.length c1,.slice a2 L2.length c2] w (Ans (.bool true) w):=by
 have hl:L2.length=L1.length:=by have:=congrArg List.length he;simp only [List.length_map] at this;exact this.symm
 rw [hl]
 obtain ⟨n,hn⟩:∃n,L1.length=n:=⟨_,rfl⟩
 rw [hn] at hl h256⊢
 have H1:=Lib.hid h1
 have H2:=Lib.hid h2
 have HN:=Lib.hid hn
 have HL:=Lib.hid hl
 have HE:=Lib.hid he
 clear h1 h2 he hn hl
 have HMF:True:=trivial
 clear HMF
 go_enter Tryz.func17,Tryz.ntmps17
 go_wp2_with fail
 go_loopw [5] (fun i wr=>∃j:Nat,j≤n∧i= .int .i64 j∧Hid (Below w.heap.size w wr)) (fun i _=>n-(intOf i).toNat)
 case atStart=>exact ⟨0,Nat.zero_le _,rfl,Lib.hid (Below.refl _ _)⟩
 case round=>
  obtain ⟨j,hj,rfl,hB⟩:=hrel
  rename World=>wr
  by_cases hlt:j<n
  ·have hki:(j:Int)<(n:Int):=by omega
   have hk0:(0:Int)≤(j:Int):=by omega
   have hj1:j<L1.length:=by rw [HN.out];exact hlt
   have hj2:j<L2.length:=by rw [HL.out];exact hlt
   obtain ⟨b1,off1,rfl,lt1,t1,r1,q1⟩:=(H1.out.below hB.out).at_ j hj1
   obtain ⟨b2,off2,rfl,lt2,t2,r2,q2⟩:=(H2.out.below hB.out).at_ j hj2
   have hX1:=(H1.out.below hB.out).els _ (List.getElem_mem hj1)
   have hX2:=(H2.out.below hB.out).els _ (List.getElem_mem hj2)
   have hd:L2[j].2=L1[j].2:=by
    have h3:(L1.map (·.2))[j]?=(L2.map (·.2))[j]?:=by rw [HE.out]
    rw [List.getElem?_map,List.getElem?_map,List.getElem?_eq_getElem hj1,List.getElem?_eq_getElem hj2] at h3
    simpa using h3.symm
   rw [hd] at t2 r2 hX2
   obtain ⟨nm,hnm⟩:∃nm,L1[j].2.nm=nm:=⟨_,rfl⟩
   obtain ⟨rr,hrr⟩:∃r,L1[j].2.r=r:=⟨_,rfl⟩
   rw [hnm] at t1 t2
   rw [hrr] at r1 r2
   have LT1:=Lib.hid lt1
   have LT2:=Lib.hid lt2
   generalize L1[j].1=x at*
   generalize L2[j].1=y at*
   have KC2:Hid (∀W,Below wr.heap.size wr W→Calls Tryz.prog 20 #[x.agg,y.agg] W fun e w'=>e= .returned (.bool true)∧Below wr.heap.size wr w'):=Lib.hid fun W hW=>(rsame_as wr x y _ W hX1 hX2 hW).mono fun _ _ ⟨a,b⟩=>⟨a,below_step hW b⟩
   obtain ⟨xop,xn,xs,xp,xpl,xpc,xq,xql,xqc,xo,xk,xkl,xkc⟩:=x
   obtain ⟨yop,yn,ys,yp,ypl,ypc,yq,yql,yqc,yo,yk,ykl,ykc⟩:=y
   have VX:Hid (∀W,Below wr.heap.size wr W→(W.cell? ⟨b1,off1+j*9,none⟩=some (.string nm)∧W.cell? ⟨b2,off2+j*9,none⟩=some (.string nm))∧(W.cell? ⟨b1,off1+j*9+1,none⟩=some (.bool rr)∧W.cell? ⟨b2,off2+j*9+1,none⟩=some (.bool rr))∧HdAt W b1 (off1+j*9+2) ⟨xop,xn,xs,xp,xpl,xpc,xq,xql,xqc,xo,xk,xkl,xkc⟩∧HdAt W b2 (off2+j*9+2) ⟨yop,yn,ys,yp,ypl,ypc,yq,yql,yqc,yo,yk,ykl,ykc⟩):=Lib.hid fun W hW=>
    ⟨⟨(hW.cell (p:=⟨b1,off1+j*9,none⟩) LT1.out).trans t1,(hW.cell (p:=⟨b2,off2+j*9,none⟩) LT2.out).trans t2⟩,⟨(hW.cell (p:=⟨b1,off1+j*9+1,none⟩) LT1.out).trans r1,(hW.cell (p:=⟨b2,off2+j*9+1,none⟩) LT2.out).trans r2⟩,q1.below hW LT1.out,q2.below hW LT2.out⟩
   unfold Hd.agg at KC2
   dsimp only at KC2
   clear q1 q2 t1 t2 r1 r2 hX1 hX2 hd hnm hrr lt1 lt2 hj1 hj2
   cases rr
   all_goals
    go_upto_region 6 with fail
    refine region_class (C:=fun W=>Below wr.heap.size wr W) (by kernel_rfl) (by kernel_rfl) ((Below.refl _ _).drew) ?_
    repeat (first|go_big_quiet_skip|(go_big_quiet_want;go_big_quiet_op;first|go_big_quiet_on|(apply Exists.intro;refine ⟨fun W hW=>?_,?_⟩;(first|rfl|exact (KC2.out W hW)|(obtain ⟨⟨a1,a2⟩,⟨a3,a4⟩,⟨c0,c1,c2,c3,c4,c5,c6⟩,⟨d0,d1,d2,d3,d4,d5,d6⟩⟩:=VX.out W hW;dsimp only at c0 c1 c2 c3 c4 c5 c6 d0 d1 d2 d3 d4 d5 d6;go_simp;first|done|rfl|exact ⟨rfl,rfl⟩));go_big_quiet_on)))
    refine wpQuiet_nil ?_
    intro w9 hW9
    go_wp2_with fail
    go_roundw
    case rel=>exact ⟨j+1,by omega,by go_num,Lib.hid (below_step hB.out hW9)⟩
    case measure=>simp [intOf];omega
  ·obtain rfl:j=n:=by omega
   have hki:¬((j:Int)<(j:Int)):=by omega
   go_wp2_with fail
   go_ret
   exact ⟨rfl,hB.out⟩
end Go.Proofs.YtkfihhagcimcmaaGreatDoor.Ps
