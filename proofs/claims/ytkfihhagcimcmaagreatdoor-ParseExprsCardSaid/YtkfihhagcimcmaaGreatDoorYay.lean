/- Pm -/
import Derived.Test.YtkfihhagcimcmaaGreatDoorChecked
import Derived.Test.YtkfihhagcimcmaaGreatDoorProg
import Derived.Test.YtkfihhagcimcmaaGreatDoorY1
import Derived.Test.YtkfihhagcimcmaaGreatDoorYax
namespace Go.Proofs.YtkfihhagcimcmaaGreatDoor.Ps
open Go.RowKit
open Lx (Tok bl_alloc bl_step)
def KidsAt (part:List Tok→Res Ex) (E op:Int) (sg:List UInt8) (R:Res Ex) (acc:List Ex) (M:List Tok):Prop:=∃g,M.length<g∧kidsF part E op sg g acc M=R
section
variable {part:List Tok→Res Ex} {E op:Int} {sg:List UInt8} {R:Res Ex} {acc:List Ex} {M:List Tok} (h:KidsAt part E op sg R acc M)
include h
theorem KidsAt.last (hb:isB sg M=false):R= .ok (many op acc) M:=by
  obtain ⟨g,hg,h⟩:=h
  cases g with
  |zero=>omega
  |succ g=>rw [kidsF,if_neg (by simp [hb])] at h;exact h.symm
theorem KidsAt.full (hb:isB sg M=true) (h32:acc.length=32):R= .bad (pk E M).at_ 4:=by
  obtain ⟨g,hg,h⟩:=h
  cases g with
  |zero=>omega
  |succ g=>rw [kidsF,if_pos hb,if_pos h32] at h;exact h.symm
theorem KidsAt.bad {a x:Int} (hb:isB sg M=true) (h32:¬acc.length=32) (hp:part M.tail= .bad a x):R= .bad a x:=by
  obtain ⟨g,hg,h⟩:=h
  cases g with
  |zero=>omega
  |succ g=>rw [kidsF,if_pos hb,if_neg h32,hp] at h;exact h.symm
theorem KidsAt.step {x:Ex} {M':List Tok} (hfit:∀L,Fits cnt L (part L)) (hb:isB sg M=true) (h32:¬acc.length=32) (hp:part M.tail= .ok x M'):KidsAt part E op sg R (acc++[x]) M'∧M'<:+M.tail∧M'.length<M.length:=by
  obtain ⟨g,hg,h⟩:=h
  cases g with
  |zero=>omega
  |succ g=>
    rw [kidsF,if_pos hb,if_neg h32,hp] at h
    obtain ⟨h1,h2⟩:=hfit _ _ _ hp
    have h3:=(List.tail_suffix M).length_le
    have h4:=cnt_pos x
    exact ⟨⟨g,by omega,h⟩,h1,by omega⟩
end
theorem many_more (op:Int) {l:List Ex} (h:¬l.length=1):many op l= .mk op 0 ⟨#[]⟩ [] [] false l:=by
  match l,h with
  |[],_=>rfl
  |[x],h=>exact absurd rfl h
  |x::y::l,_=>rfl
theorem own_head {w:World} {base n:Nat} {a:Option Addr} {c:Nat} {L:List HX} {j:Nat} (h:w.ownsRow base 35 7 (.slice a n c) n (hcells L)) (hj:j<L.length):∃g,a=some ⟨g,0,none⟩∧HdAt w g (j*7) L[j].1:=by
  rcases h.2 with ⟨e,hn0⟩|⟨g,cap,cur,e,hb,hg,hcap,hm,hsz,htake⟩
  · have h1:=h.1
    rw [hcells_len,hn0] at h1
    omega
  · cases e
    refine ⟨g,rfl,?_⟩
    have hl:∀r,r<7→w.cell? ⟨g,j*7+r,none⟩=(L[j].1.vals.toList)[r]?:=fun r hr=>by
      have e1:=flat_get (L.map fun y=>y.1.vals.toList) j r (fun x hx=>by obtain ⟨t,-,rfl⟩:=List.mem_map.1 hx;rfl) hr (by simpa using hj)
      rw [List.getElem_map] at e1
      have h2:=h.cells (g:=g) rfl (j*7+r) ((L[j].1.vals.toList)[r]'hr) (by rw [show hcells L=(L.map fun y=>y.1.vals.toList).flatten from rfl,e1,List.getElem?_eq_getElem hr])
      rw [show (⟨g,j*7+r,none⟩:Addr)=(⟨g,0,none⟩:Addr).add (j*7+r) by simp [Addr.add],h2,List.getElem?_eq_getElem hr]
    exact ⟨hl 0 (by decide),hl 1 (by decide),hl 2 (by decide),hl 3 (by decide),hl 4 (by decide),hl 5 (by decide),hl 6 (by decide)⟩
theorem own_slice {w:World} {base n:Nat} {v:Value} {xs:List Value} (h:w.ownsRow base 35 7 v n xs):∃a c,v= .slice a n c:=by
  rcases h.2 with ⟨rfl,rfl⟩|⟨g,cap,cur,rfl,_⟩
  · exact ⟨none,0,rfl⟩
  · exact ⟨_,cap,rfl⟩
theorem lt_own {w:World} {base E s n:Nat} {v:Value} {xs:List Value} {g:Nat} (h:w.ownsRow base E s v n xs) (e:v.ownBlock=some g):g<w.heap.size:=by
  rcases h.2 with ⟨rfl,_⟩|⟨g',cap,cur,rfl,_,hg,_⟩
  · cases e
  · have e:g'=g:=by simpa [Value.ownBlock] using e
    subst e
    exact (Array.getElem?_eq_some_iff.1 hg).1
def Els (B:Nat) (v:Value) (L:List HX) (w:World):Prop:=∀y∈L,XB (fun b=>B≤b∧v.ownBlock≠some b) w y.1 y.2
theorem Els.keep {B p:Nat} {v:Value} {L:List HX} {w w':World} (h:Els B v L w) (hk:Keep p w w') (hp:p<B):Els B v L w':=fun y hy=>(h y hy).keep hk (fun e=>by omega)
theorem Els.below {B:Nat} {v:Value} {L:List HX} {w w':World} (h:Els B v L w) (hb:Below w.heap.size w w'):Els B v L w':=fun y hy=>(h y hy).below hb
theorem Els.app {B:Nat} {v v':Value} {L:List HX} {y:HX} {w w0 w':World} (h:Els B v L w) (hy:XB (fun b=>B≤b∧v.ownBlock≠some b) w y.1 y.2) (hz:w.heap.size≤w0.heap.size) (h0:Below w.heap.size w w0) (hg:w0.grownBy w' v.ownBlock) (hv:v'.ownBlock=v.ownBlock∨v'.ownBlock=some w0.heap.size):Els B v' (L++[y]) w':=by
  have key:∀z:HX,XB (fun b=>B≤b∧v.ownBlock≠some b) w z.1 z.2→XB (fun b=>B≤b∧v'.ownBlock≠some b) w' z.1 z.2:=fun z hz2=>hz2.turn (Nat.le_trans hz hg.size) fun b lt hb=>⟨(hg.block b (by omega) (fun e=>hb.2 e.symm)).trans (h0.block b lt),hb.1,fun e=>by
    rcases hv with hv|hv
    · exact hb.2 (hv.symm.trans e)
    · rw [hv] at e;injection e with e;omega⟩
  intro z hz2
  rcases List.mem_append.1 hz2 with h1|h1
  · exact key z (h z h1)
  · rw [List.mem_singleton.1 h1];exact key y hy
theorem VX.hd {B:Nat} {w:World} {x:Ex} {v:Value} (h:VX B w x v):∃op n s p pl pc q ql qc o k kl kc,v= .agg #[.int .i64 op,.int .i64 n,.string s,.slice p pl pc,.slice q ql qc,.bool o,.slice k kl kc]∧XB (fun b=>B≤b) w ⟨op,n,s,p,pl,pc,q,ql,qc,o,k,kl,kc⟩ x:=by
  obtain ⟨⟨op,n,s,p,pl,pc,q,ql,qc,o,k,kl,kc⟩,h1,h2⟩:=h
  exact ⟨op,n,s,p,pl,pc,q,ql,qc,o,k,kl,kc,h1,h2⟩
set_option maxRecDepth 100000 in
set_option maxHeartbeats 4000000 in
theorem kids_join (part:List Tok→Res Ex) (w:World) (p cap:Nat) (a:Option Addr) (L:List Tok) (E o:Int) (h:Prs w p a cap L E o) (hfit:∀L,Fits cnt L (part L))
    (ask:∀(W:World) (a:Option Addr) (cap:Nat) (M:List Tok),M.length≤L.length→Prs W p a cap M E o→Calls Tryz.prog 171 #[.pointer (some ⟨p,0,none⟩)] W (PostR (VX W.heap.size) W p E o (part M))):
    Calls Tryz.prog 170 #[.pointer (some ⟨p,0,none⟩),.int .i64 12,.string ⟨#[124]⟩,.func (.func 171) #[.pointer (some ⟨p,0,none⟩)] #[]] w (PostR (VX w.heap.size) w p E o (kidsM part E 12 [124] L)):=by
  have H:=Lib.hid h
  have HASK:=Lib.hid ask
  have HFIT:=Lib.hid hfit
  have hpl:=h.lt
  have HB0:=Lib.hid (bl_alloc (o:= .cells #[.int .i64 0,.int .i64 0,.string ⟨#[]⟩,.slice none 0 0,.slice none 0 0,.bool false,.slice none 0 0] 35) (Below.refl w.heap.size w))
  have HZ0:=Lib.hid (Bx.new w #[.int .i64 0,.int .i64 0,.string ⟨#[]⟩,.slice none 0 0,.slice none 0 0,.bool false,.slice none 0 0] 35)
  obtain ⟨R,hR⟩:∃R,kidsM part E 12 [124] L=R:=⟨_,rfl⟩
  rw [hR]
  have hsw:(w.alloc (.cells #[.int .i64 0,.int .i64 0,.string ⟨#[]⟩,.slice none 0 0,.slice none 0 0,.bool false,.slice none 0 0] 35)).heap.size=w.heap.size+1:=by simp
  cases hp:part L with
  |bad x y=>
    have HPT:=Lib.hid hp
    have HR:Hid (R= .bad x y):=Lib.hid (by rw [←hR];unfold kidsM;rw [hp];rfl)
    clear h ask hfit hR hp
    go_enter Tryz.func170,Tryz.ntmps170
    go_wp2_with (go_at_call 171;refine (HASK.out _ _ _ _ (Nat.le_refl _) (H.out.below HB0.out)).mono ?_;rintro e w4 hq;rw [HPT.out] at hq;obtain ⟨rfl,hK4⟩:=hq.no;have HK4:=Lib.hid ((Keep.of_below HB0.out).trans hK4);clear hq hK4)
    exact ⟨rfl,.mkN HR.out HK4.out⟩
  |ok x M=>
    have HPT:=Lib.hid hp
    have HA:Hid (KidsAt part E 12 [124] R [x] M):=Lib.hid ⟨M.length+1,by omega,by rw [←hR];unfold kidsM;rw [hp];rfl⟩
    have HS0:Hid (M<:+L):=Lib.hid (hfit _ _ _ hp).1
    obtain ⟨i0,hi,hz0,hz1,hz2⟩:=info_parts info26
    have HI:=Lib.hid hi
    have HI0:=Lib.hid hz0
    have HI1:=Lib.hid hz1
    have HI2:=Lib.hid hz2
    clear h ask hfit hR hp hi hz0 hz1 hz2
    go_enter Tryz.func170,Tryz.ntmps170
    go_wp2_with (go_at_call 171;refine (HASK.out _ _ _ _ (Nat.le_refl _) (H.out.below HB0.out)).mono ?_;rintro e w4 hq;rw [HPT.out] at hq;obtain ⟨v,a4,cp4,rfl,hV,hP4,hK4⟩:=hq.yes;obtain ⟨op2,nn2,s2,p2,pl2,pc2,q2,ql2,qc2,o2,k2,kl2,kc2,rfl,hX⟩:=hV.hd;have HV:=Lib.hid hX;have HP4:=Lib.hid hP4;have HZ4:=Lib.hid (HZ0.out.keep hK4 (by omega));have HK4:=Lib.hid ((Keep.of_below HB0.out).trans hK4);have hz4:=hK4.size;rw [hsw] at hz4;clear hq hV hX hP4 hK4)
    have HO1:=Lib.hid (row_built (w:=w4) (base:=w.heap.size+1) hz4 (cs:=#[.int .i64 op2,.int .i64 nn2,.string s2,.slice p2 pl2 pc2,.slice q2 ql2 qc2,.bool o2,.slice k2 kl2 kc2]) (L:=[(⟨op2,nn2,s2,p2,pl2,pc2,q2,ql2,qc2,o2,k2,kl2,kc2⟩,x)]) (n:=1) rfl rfl (by decide))
    have hBR:=bl_alloc (o:= .cells #[.int .i64 op2,.int .i64 nn2,.string s2,.slice p2 pl2 pc2,.slice q2 ql2 qc2,.bool o2,.slice k2 kl2 kc2] 35) (Below.refl w4.heap.size w4)
    have HP5:=Lib.hid (HP4.out.below hBR)
    have HZ5:=Lib.hid (HZ4.out.below hBR)
    have HK5:=Lib.hid (HK4.out.trans (.of_below hBR))
    have HE5:Hid (Els (w.heap.size+1) (.slice (some ⟨w4.heap.size,0,none⟩) 1 1) [(⟨op2,nn2,s2,p2,pl2,pc2,q2,ql2,qc2,o2,k2,kl2,kc2⟩,x)] (w4.alloc (.cells #[.int .i64 op2,.int .i64 nn2,.string s2,.slice p2 pl2 pc2,.slice q2 ql2 qc2,.bool o2,.slice k2 kl2 kc2] 35))):=Lib.hid (fun y hy=>by
      rw [List.mem_singleton.1 hy]
      exact HV.out.turn hBR.size (fun b lt hb=>⟨hBR.block b lt,by rw [hsw] at hb;exact hb,fun e=>absurd (show w4.heap.size=b by simpa [Value.ownBlock] using e) (by omega)⟩))
    obtain ⟨w5,hw5⟩:∃w5,w4.alloc (.cells #[.int .i64 op2,.int .i64 nn2,.string s2,.slice p2 pl2 pc2,.slice q2 ql2 qc2,.bool o2,.slice k2 kl2 kc2] 35)=w5:=⟨_,rfl⟩
    rw [hw5] at HO1 HP5 HZ5 HK5 HE5 hBR⊢
    clear hw5 hBR HV HP4 HZ4 HK4 HPT
    go_loopw [9] (fun v wr=>∃(LL:List HX) (M:List Tok) (a':Option Addr) (cp:Nat),1≤LL.length∧LL.length≤32∧Hid (KidsAt part E 12 [124] R (LL.map (·.2)) M)∧Hid (M<:+L)∧Hid (wr.ownsRow (w.heap.size+1) 35 7 v LL.length (hcells LL))∧Hid (Els (w.heap.size+1) v LL wr)∧Hid (Prs wr p a' cp M E o)∧Hid (Keep p w wr)∧Hid (Bx wr w.heap.size #[.int .i64 0,.int .i64 0,.string ⟨#[]⟩,.slice none 0 0,.slice none 0 0,.bool false,.slice none 0 0] 35)) (fun _ wr=>leftN wr p)
    case atStart=>exact ⟨[(⟨op2,nn2,s2,p2,pl2,pc2,q2,ql2,qc2,o2,k2,kl2,kc2⟩,x)],M,a4,cp4,Nat.le_refl 1,(by show 1≤32;decide),HA,HS0,HO1,HE5,HP5,HK5,HZ5⟩
    case round=>
      obtain ⟨LL,M,a',cp,hl1,hl32,hA,hS,hO,hE,hP,hK,hZ⟩:=hrel
      rename World=>wr
      obtain ⟨ra,rc,rfl⟩:=own_slice hO.out
      have hkm:(LL.map (·.2)).length=LL.length:=List.length_map ..
      cases hb:isB [124] M with
      |false=>
        have HI2':Hid (isB (ByteArray.toList ⟨#[124]⟩) M=false):=Lib.hid ((isL [124] M).trans hb)
        have HR:=Lib.hid (hA.out.last hb)
        by_cases h1:LL.length=1
        · obtain ⟨⟨hx,xx⟩,rfl⟩:∃y,LL=[y]:=by
            match LL,h1 with
            |[y],_=>exact ⟨y,rfl⟩
          obtain ⟨g,rfl,hH⟩:=own_head (j:=0) hO.out (Nat.lt_succ_self 0)
          obtain ⟨op2,nn2,s2,p2,pl2,pc2,q2,ql2,qc2,o2,k2,kl2,kc2⟩:=hx
          have hH:HdAt wr g 0 ⟨op2,nn2,s2,p2,pl2,pc2,q2,ql2,qc2,o2,k2,kl2,kc2⟩:=by simpa using hH
          have HHD:=Lib.hid hH
          have HEX:=Lib.hid (hE.out _ (List.mem_singleton.2 rfl))
          clear hb h1 hkm hl1 hl32 hH hE hA
          go_wp2_with (go_at_call 204;refine (is_as _ _ _ _ _ _ _ _ _ hP.out HI2').mono ?_;rintro e w2 ⟨rfl,hb⟩;obtain ⟨c0,c1,c2,c3,c4,c5,c6⟩:=HdAt.below HHD.out hb (lt_of_cell HHD.out.c0);dsimp only at c0 c1 c2 c3 c4 c5 c6;simp only [Nat.zero_add] at c1 c2 c3 c4 c5 c6;have q3:=hZ.out.below hb;have m0:=q3.cell 0 rfl;have m1:=q3.cell 1 rfl;have m2:=q3.cell 2 rfl;have m3:=q3.cell 3 rfl;have m4:=q3.cell 4 rfl;have m5:=q3.cell 5 rfl;have m6:=q3.cell 6 rfl;have mf:=q3.fz;have HB2:=Lib.hid hb;clear q3 hb)
          refine bodyPost_ret (v:= .agg #[.int .i64 op2,.int .i64 nn2,.string s2,.slice p2 pl2 pc2,.slice q2 ql2 qc2,.bool o2,.slice k2 kl2 kc2]) (by simp [results,Tryz.results170,go_sem,m0,m1,m2,m3,m4,m5,m6]) rfl ?_
          have hg:=put7_grown w2 w.heap.size (.int .i64 op2) (.int .i64 nn2) (.string s2) (.slice p2 pl2 pc2) (.slice q2 ql2 qc2) (.bool o2) (.slice k2 kl2 kc2)
          refine .mkY HR.out ⟨⟨op2,nn2,s2,p2,pl2,pc2,q2,ql2,qc2,o2,k2,kl2,kc2⟩,rfl,HEX.out.turn (Nat.le_trans HB2.out.size hg.size) (fun b lt hb=>⟨(hg.block b (Nat.lt_of_lt_of_le lt HB2.out.size) (fun e=>by injection e with e;omega)).trans (HB2.out.block b lt),by omega⟩)⟩ ((hP.out.below HB2.out).grown hg (fun k e=>by cases e;exact hpl)) ((hK.out.trans (.of_below HB2.out)).grown hg (fun k e=>by cases e;exact Nat.le_refl _))
        · have hn1:((LL.length:Int)==1)=false:=by simp;omega
          have HR2:Hid (R= .ok (.mk 12 0 ⟨#[]⟩ [] [] false (LL.map (·.2))) M):=Lib.hid (by rw [HR.out,many_more _ (by rw [hkm];exact h1)])
          clear hb h1 hA HR
          go_wp2_with (go_at_call 204;refine (is_as _ _ _ _ _ _ _ _ _ hP.out HI2').mono ?_;rintro e w2 ⟨rfl,hb⟩;have q3:=hZ.out.below hb;have m0:=q3.cell 0 rfl;have m1:=q3.cell 1 rfl;have m2:=q3.cell 2 rfl;have m3:=q3.cell 3 rfl;have m4:=q3.cell 4 rfl;have m5:=q3.cell 5 rfl;have m6:=q3.cell 6 rfl;have mf:=q3.fz;clear q3;have HB2:=Lib.hid hb;clear hb)
          refine bodyPost_ret (v:= .agg #[.int .i64 12,.int .i64 0,.string ⟨#[]⟩,.slice none 0 0,.slice none 0 0,.bool false,.slice ra LL.length rc]) (by simp [results,Tryz.results170,go_sem,m0,m1,m2,m3,m4,m5,m6]) rfl ?_
          have hg:=put7_grown w2 w.heap.size (.int .i64 12) (.int .i64 0) (.string ⟨#[]⟩) (.slice none 0 0) (.slice none 0 0) (.bool false) (.slice ra LL.length rc)
          have hob:=own_base hO.out
          have hOF:=(hO.out.kept (grown_below HB2.out) (by cases Value.ownBlock _<;>simp)).kept hg (by
            cases hv:(Value.slice ra LL.length rc).ownBlock with
            |none=>exact .inl rfl
            |some g=>exact .inr (fun e=>by injection e with e;have:=hob g hv;omega))
          obtain ⟨a9,c9,e9,hK9⟩:=row_ks (I:=XB (fun b=>w.heap.size≤b) (put7 w2 w.heap.size (.int .i64 12) (.int .i64 0) (.string ⟨#[]⟩) (.slice none 0 0) (.slice none 0 0) (.bool false) (.slice ra LL.length rc))) hOF rfl (by omega) (fun y hy=>(hE.out y hy).turn (Nat.le_trans HB2.out.size hg.size) (fun b lt hb=>⟨(hg.block b (Nat.lt_of_lt_of_le lt HB2.out.size) (fun e=>by injection e with e;omega)).trans (HB2.out.block b lt),by omega⟩))
          cases e9
          exact .mkY HR2.out ⟨⟨12,0,⟨#[]⟩,none,0,0,none,0,0,false,ra,LL.length,rc⟩,rfl,XB.kids 12 hK9 (fun h0 b off e=>by
            subst e
            have:(Value.slice (some (⟨b,off,none⟩:Addr)) LL.length rc).ownBlock=some b:=by simp [Value.ownBlock]
            have:=hob b this
            omega)⟩ ((hP.out.below HB2.out).grown hg (fun k e=>by cases e;exact hpl)) ((hK.out.trans (.of_below HB2.out)).grown hg (fun k e=>by cases e;exact Nat.le_refl _))
      |true=>
        have HI2':Hid (isB (ByteArray.toList ⟨#[124]⟩) M=true):=Lib.hid ((isL [124] M).trans hb)
        by_cases h32:LL.length=32
        · have HR:=Lib.hid (hA.out.full hb (hkm.trans h32))
          obtain ⟨y,hy⟩:∃y,(pk E M).at_=y:=⟨_,rfl⟩
          rw [hy] at HR
          have HX:=Lib.hid hy
          clear hy
          have hn32:((LL.length:Int)==32)=true:=by rw [h32];rfl
          clear hb hA h32
          go_wp2_with (first
            |(go_at_call 204;refine (is_as _ _ _ _ _ _ _ _ _ hP.out HI2').mono ?_;rintro e w2 ⟨rfl,hb⟩;have HB2:=Lib.hid hb;clear hb)
            |(go_at_call 97;refine (fault_as _ _ _ _ _ _ _ _ _ (hP.out.below HB2.out) HX).mono ?_;rintro e w4 ⟨rfl,hb⟩;have HB4:=Lib.hid (bl_step HB2.out hb);clear hb))
          exact ⟨rfl,.mkN HR.out (hK.out.trans (.of_below HB4.out))⟩
        · obtain ⟨t,T,rfl,_,_⟩:=isB_cons hb
          have hn32:((LL.length:Int)==32)=false:=by simp;omega
          have hTL:T.length≤L.length:=by have:=hS.out.length_le;simp at this;omega
          have arm:=fun (W:World) (a:Option Addr) (cap:Nat) (hP:Prs W p a cap T E o)=>Lib.hid (HASK.out W a cap T hTL hP)
          cases hp:part T with
          |bad x y=>
            have HPT:=Lib.hid hp
            have HR:=Lib.hid (hA.out.bad hb (by rw [hkm];exact h32) hp)
            clear hb hA h32 hp
            go_wp2_with (first
              |(go_at_call 204;refine (is_as _ _ _ _ _ _ _ _ _ hP.out HI2').mono ?_;rintro e w2 ⟨rfl,hb⟩;have HB2:=Lib.hid hb;clear hb)
              |(go_at_call 141;refine (pass_any _ _ _ _ _ _ _ _ (hP.out.below HB2.out)).mono ?_;rintro e w3 hq;obtain ⟨v,a3,cp3,rfl,rfl,hP3,hK3⟩:=hq.yes;have HP3:=Lib.hid hP3;have HK3:=Lib.hid ((hK.out.trans (.of_below HB2.out)).trans hK3);clear hP3 hK3 hq)
              |(go_at_call 171;refine (arm _ _ _ HP3.out).out.mono ?_;rintro e w4 hq;rw [HPT.out] at hq;obtain ⟨rfl,hK4⟩:=hq.no;have HK4:=Lib.hid (HK3.out.trans hK4);clear hq hK4))
            exact ⟨rfl,.mkN HR.out HK4.out⟩
          |ok x M'=>
            have HPT:=Lib.hid hp
            obtain ⟨hA',hs',hl'⟩:=hA.out.step HFIT.out hb (by rw [hkm];exact h32) hp
            have HA':Hid (∀y:Hd,KidsAt part E 12 [124] R ((LL++[((y,x):HX)]).map (·.2)) M'):=Lib.hid (fun y=>by rw [List.map_append];exact hA')
            have HS':Hid (M'<:+L):=Lib.hid (hs'.trans ((List.suffix_cons _ _).trans hS.out))
            have HL':=Lib.hid hl'
            clear hb hA hp hA' hs' hl'
            go_wp2_with (first
              |(go_at_call 204;refine (is_as _ _ _ _ _ _ _ _ _ hP.out HI2').mono ?_;rintro e w2 ⟨rfl,hb⟩;have HB2:=Lib.hid hb;clear hb)
              |(go_at_call 141;refine (pass_any _ _ _ _ _ _ _ _ (hP.out.below HB2.out)).mono ?_;rintro e w3 hq;obtain ⟨v,a3,cp3,rfl,rfl,hP3,hK3⟩:=hq.yes;have HP3:=Lib.hid hP3;have HK3:=Lib.hid ((hK.out.trans (.of_below HB2.out)).trans hK3);have HO3:=Lib.hid (owns_keep (hO.out.kept (grown_below HB2.out) (by cases Value.ownBlock _<;>simp)) hK3 (by omega));have HE3:=Lib.hid ((hE.out.below HB2.out).keep hK3 (by omega));have HZ3:=Lib.hid ((hZ.out.below HB2.out).keep hK3 (by omega));clear hP3 hK3 hq)
              | (go_at_call 171; refine (arm _ _ _ HP3.out).out.mono ?_; rintro e w4 hq; rw [HPT.out] at hq; obtain ⟨v, a4, cp4, rfl, hV, hP4, hK4⟩ := hq.yes; obtain ⟨op2, nn2, s2, p2, pl2, pc2, q2, ql2, qc2, o2, k2, kl2, kc2, rfl, hX⟩ := hV.hd
                 have HXN:=Lib.hid (hX.less (Q:=fun b=>w.heap.size+1≤b∧(Value.slice ra LL.length rc).ownBlock≠some b) (fun b lt hb=>⟨by have:=HK3.out.size;have:=HZ3.out.lt;omega,fun e=>by
                   have:=lt_own HO3.out e
                   omega⟩))
                 have HP4:=Lib.hid hP4;have HO4:=Lib.hid (owns_keep HO3.out hK4 (by omega));have HE4:=Lib.hid (HE3.out.keep hK4 (by omega));have HZ4:=Lib.hid (HZ3.out.keep hK4 (by omega));have HK4:=Lib.hid (HK3.out.trans hK4);clear hq hV hX hP4 hK4
                 have HBR:=Lib.hid (bl_alloc (o:= .cells #[.int .i64 op2,.int .i64 nn2,.string s2,.slice p2 pl2 pc2,.slice q2 ql2 qc2,.bool o2,.slice k2 kl2 kc2] 35) (Below.refl w4.heap.size w4))
                 have HCN:Hid (∀r u,[Value.int .i64 op2,.int .i64 nn2,.string s2,.slice p2 pl2 pc2,.slice q2 ql2 qc2,.bool o2,.slice k2 kl2 kc2][r]?=some u→(w4.alloc (.cells #[.int .i64 op2,.int .i64 nn2,.string s2,.slice p2 pl2 pc2,.slice q2 ql2 qc2,.bool o2,.slice k2 kl2 kc2] 35)).cell? ((⟨w4.heap.size,0,none⟩:Addr).add r)=some u):=Lib.hid (World.news_of_block (Lx.heap_new w4 _)))
              |(at_builtin;refine wpList_append_own_at _ rfl _ _ 33 rfl (w.heap.size+1) 35 i0 _ 7 112 Tryz.underlying33 HI.out HI0.out HI1.out HI2.out rfl (by decide) _ LL.length (hcells LL) rfl (HO4.out.alloc _) ⟨w4.heap.size,0,none⟩ 1 1 [Value.int .i64 op2,.int .i64 nn2,.string s2,.slice p2 pl2 pc2,.slice q2 ql2 qc2,.bool o2,.slice k2 kl2 kc2] rfl rfl HCN.out (fun x hx=>by simp at hx;rcases hx with rfl|rfl|rfl|rfl|rfl|rfl|rfl<;>rfl) (by unfold maxLen;omega) (by omega) (by have:=HK4.out.size;have:=HZ4.out.lt;simp;omega) ?_))
            intro v' w6 hown' hgrow hnil hob
            have hbase:=own_base HO4.out
            have HO6:=Lib.hid (show w6.ownsRow (w.heap.size+1) 35 7 v' (LL++[((⟨op2,nn2,s2,p2,pl2,pc2,q2,ql2,qc2,o2,k2,kl2,kc2⟩,x):HX)]).length (hcells (LL++[((⟨op2,nn2,s2,p2,pl2,pc2,q2,ql2,qc2,o2,k2,kl2,kc2⟩,x):HX)])) by rw [hcells_snoc,List.length_append];exact hown')
            have HE6:=Lib.hid (Els.app (y:=(⟨op2,nn2,s2,p2,pl2,pc2,q2,ql2,qc2,o2,k2,kl2,kc2⟩,x)) HE4.out HXN.out HBR.out.size HBR.out hgrow (by rw [World.size_alloc];exact hob))
            have HP6:=Lib.hid ((HP4.out.below HBR.out).grown hgrow (fun k hk=>by have:=hbase k hk;omega))
            have HK6:=Lib.hid ((HK4.out.trans (.of_below HBR.out)).grown hgrow (fun k hk=>by have:=hbase k hk;omega))
            have HZ6:Hid (Bx w6 w.heap.size #[.int .i64 0,.int .i64 0,.string ⟨#[]⟩,.slice none 0 0,.slice none 0 0,.bool false,.slice none 0 0] 35):=Lib.hid ((hgrow.block _ (HZ4.out.below HBR.out).lt (fun e=>by have:=hbase _ e.symm;omega)).trans (HZ4.out.below HBR.out))
            clear hown' hgrow hnil hob hbase
            go_wp2_with fail
            go_roundw
            case rel=>exact ⟨LL++[((⟨op2,nn2,s2,p2,pl2,pc2,q2,ql2,qc2,o2,k2,kl2,kc2⟩,x):HX)],M',a4,cp4,by simp,by simp<;>omega,HA'.out _,HS',HO6,HE6,HP6,HK6,HZ6⟩
            case measure=>rw [HP6.out.leftN,hP.out.leftN];exact HL'.out
set_option maxRecDepth 100000 in
set_option maxHeartbeats 4000000 in
theorem kids_meet (part:List Tok→Res Ex) (w:World) (p cap:Nat) (a:Option Addr) (L:List Tok) (E o:Int) (h:Prs w p a cap L E o) (hfit:∀L,Fits cnt L (part L))
    (ask:∀(W:World) (a:Option Addr) (cap:Nat) (M:List Tok),M.length≤L.length→Prs W p a cap M E o→Calls Tryz.prog 207 #[.pointer (some ⟨p,0,none⟩)] W (PostR (VX W.heap.size) W p E o (part M))):
    Calls Tryz.prog 170 #[.pointer (some ⟨p,0,none⟩),.int .i64 11,.string ⟨#[38]⟩,.func (.func 207) #[.pointer (some ⟨p,0,none⟩)] #[]] w (PostR (VX w.heap.size) w p E o (kidsM part E 11 [38] L)):=by
  have H:=Lib.hid h
  have HASK:=Lib.hid ask
  have HFIT:=Lib.hid hfit
  have hpl:=h.lt
  have HB0:=Lib.hid (bl_alloc (o:= .cells #[.int .i64 0,.int .i64 0,.string ⟨#[]⟩,.slice none 0 0,.slice none 0 0,.bool false,.slice none 0 0] 35) (Below.refl w.heap.size w))
  have HZ0:=Lib.hid (Bx.new w #[.int .i64 0,.int .i64 0,.string ⟨#[]⟩,.slice none 0 0,.slice none 0 0,.bool false,.slice none 0 0] 35)
  obtain ⟨R,hR⟩:∃R,kidsM part E 11 [38] L=R:=⟨_,rfl⟩
  rw [hR]
  have hsw:(w.alloc (.cells #[.int .i64 0,.int .i64 0,.string ⟨#[]⟩,.slice none 0 0,.slice none 0 0,.bool false,.slice none 0 0] 35)).heap.size=w.heap.size+1:=by simp
  cases hp:part L with
  |bad x y=>
    have HPT:=Lib.hid hp
    have HR:Hid (R= .bad x y):=Lib.hid (by rw [←hR];unfold kidsM;rw [hp];rfl)
    clear h ask hfit hR hp
    go_enter Tryz.func170,Tryz.ntmps170
    go_wp2_with (go_at_call 207;refine (HASK.out _ _ _ _ (Nat.le_refl _) (H.out.below HB0.out)).mono ?_;rintro e w4 hq;rw [HPT.out] at hq;obtain ⟨rfl,hK4⟩:=hq.no;have HK4:=Lib.hid ((Keep.of_below HB0.out).trans hK4);clear hq hK4)
    exact ⟨rfl,.mkN HR.out HK4.out⟩
  |ok x M=>
    have HPT:=Lib.hid hp
    have HA:Hid (KidsAt part E 11 [38] R [x] M):=Lib.hid ⟨M.length+1,by omega,by rw [←hR];unfold kidsM;rw [hp];rfl⟩
    have HS0:Hid (M<:+L):=Lib.hid (hfit _ _ _ hp).1
    obtain ⟨i0,hi,hz0,hz1,hz2⟩:=info_parts info26
    have HI:=Lib.hid hi
    have HI0:=Lib.hid hz0
    have HI1:=Lib.hid hz1
    have HI2:=Lib.hid hz2
    clear h ask hfit hR hp hi hz0 hz1 hz2
    go_enter Tryz.func170,Tryz.ntmps170
    go_wp2_with (go_at_call 207;refine (HASK.out _ _ _ _ (Nat.le_refl _) (H.out.below HB0.out)).mono ?_;rintro e w4 hq;rw [HPT.out] at hq;obtain ⟨v,a4,cp4,rfl,hV,hP4,hK4⟩:=hq.yes;obtain ⟨op2,nn2,s2,p2,pl2,pc2,q2,ql2,qc2,o2,k2,kl2,kc2,rfl,hX⟩:=hV.hd;have HV:=Lib.hid hX;have HP4:=Lib.hid hP4;have HZ4:=Lib.hid (HZ0.out.keep hK4 (by omega));have HK4:=Lib.hid ((Keep.of_below HB0.out).trans hK4);have hz4:=hK4.size;rw [hsw] at hz4;clear hq hV hX hP4 hK4)
    have HO1:=Lib.hid (row_built (w:=w4) (base:=w.heap.size+1) hz4 (cs:=#[.int .i64 op2,.int .i64 nn2,.string s2,.slice p2 pl2 pc2,.slice q2 ql2 qc2,.bool o2,.slice k2 kl2 kc2]) (L:=[(⟨op2,nn2,s2,p2,pl2,pc2,q2,ql2,qc2,o2,k2,kl2,kc2⟩,x)]) (n:=1) rfl rfl (by decide))
    have hBR:=bl_alloc (o:= .cells #[.int .i64 op2,.int .i64 nn2,.string s2,.slice p2 pl2 pc2,.slice q2 ql2 qc2,.bool o2,.slice k2 kl2 kc2] 35) (Below.refl w4.heap.size w4)
    have HP5:=Lib.hid (HP4.out.below hBR)
    have HZ5:=Lib.hid (HZ4.out.below hBR)
    have HK5:=Lib.hid (HK4.out.trans (.of_below hBR))
    have HE5:Hid (Els (w.heap.size+1) (.slice (some ⟨w4.heap.size,0,none⟩) 1 1) [(⟨op2,nn2,s2,p2,pl2,pc2,q2,ql2,qc2,o2,k2,kl2,kc2⟩,x)] (w4.alloc (.cells #[.int .i64 op2,.int .i64 nn2,.string s2,.slice p2 pl2 pc2,.slice q2 ql2 qc2,.bool o2,.slice k2 kl2 kc2] 35))):=Lib.hid (fun y hy=>by
      rw [List.mem_singleton.1 hy]
      exact HV.out.turn hBR.size (fun b lt hb=>⟨hBR.block b lt,by rw [hsw] at hb;exact hb,fun e=>absurd (show w4.heap.size=b by simpa [Value.ownBlock] using e) (by omega)⟩))
    obtain ⟨w5,hw5⟩:∃w5,w4.alloc (.cells #[.int .i64 op2,.int .i64 nn2,.string s2,.slice p2 pl2 pc2,.slice q2 ql2 qc2,.bool o2,.slice k2 kl2 kc2] 35)=w5:=⟨_,rfl⟩
    rw [hw5] at HO1 HP5 HZ5 HK5 HE5 hBR⊢
    clear hw5 hBR HV HP4 HZ4 HK4 HPT
    go_loopw [9] (fun v wr=>∃(LL:List HX) (M:List Tok) (a':Option Addr) (cp:Nat),1≤LL.length∧LL.length≤32∧Hid (KidsAt part E 11 [38] R (LL.map (·.2)) M)∧Hid (M<:+L)∧Hid (wr.ownsRow (w.heap.size+1) 35 7 v LL.length (hcells LL))∧Hid (Els (w.heap.size+1) v LL wr)∧Hid (Prs wr p a' cp M E o)∧Hid (Keep p w wr)∧Hid (Bx wr w.heap.size #[.int .i64 0,.int .i64 0,.string ⟨#[]⟩,.slice none 0 0,.slice none 0 0,.bool false,.slice none 0 0] 35)) (fun _ wr=>leftN wr p)
    case atStart=>exact ⟨[(⟨op2,nn2,s2,p2,pl2,pc2,q2,ql2,qc2,o2,k2,kl2,kc2⟩,x)],M,a4,cp4,Nat.le_refl 1,(by show 1≤32;decide),HA,HS0,HO1,HE5,HP5,HK5,HZ5⟩
    case round=>
      obtain ⟨LL,M,a',cp,hl1,hl32,hA,hS,hO,hE,hP,hK,hZ⟩:=hrel
      rename World=>wr
      obtain ⟨ra,rc,rfl⟩:=own_slice hO.out
      have hkm:(LL.map (·.2)).length=LL.length:=List.length_map ..
      cases hb:isB [38] M with
      |false=>
        have HI2':Hid (isB (ByteArray.toList ⟨#[38]⟩) M=false):=Lib.hid ((isL [38] M).trans hb)
        have HR:=Lib.hid (hA.out.last hb)
        by_cases h1:LL.length=1
        · obtain ⟨⟨hx,xx⟩,rfl⟩:∃y,LL=[y]:=by
            match LL,h1 with
            |[y],_=>exact ⟨y,rfl⟩
          obtain ⟨g,rfl,hH⟩:=own_head (j:=0) hO.out (Nat.lt_succ_self 0)
          obtain ⟨op2,nn2,s2,p2,pl2,pc2,q2,ql2,qc2,o2,k2,kl2,kc2⟩:=hx
          have hH:HdAt wr g 0 ⟨op2,nn2,s2,p2,pl2,pc2,q2,ql2,qc2,o2,k2,kl2,kc2⟩:=by simpa using hH
          have HHD:=Lib.hid hH
          have HEX:=Lib.hid (hE.out _ (List.mem_singleton.2 rfl))
          clear hb h1 hkm hl1 hl32 hH hE hA
          go_wp2_with (go_at_call 204;refine (is_as _ _ _ _ _ _ _ _ _ hP.out HI2').mono ?_;rintro e w2 ⟨rfl,hb⟩;obtain ⟨c0,c1,c2,c3,c4,c5,c6⟩:=HdAt.below HHD.out hb (lt_of_cell HHD.out.c0);dsimp only at c0 c1 c2 c3 c4 c5 c6;simp only [Nat.zero_add] at c1 c2 c3 c4 c5 c6;have q3:=hZ.out.below hb;have m0:=q3.cell 0 rfl;have m1:=q3.cell 1 rfl;have m2:=q3.cell 2 rfl;have m3:=q3.cell 3 rfl;have m4:=q3.cell 4 rfl;have m5:=q3.cell 5 rfl;have m6:=q3.cell 6 rfl;have mf:=q3.fz;have HB2:=Lib.hid hb;clear q3 hb)
          refine bodyPost_ret (v:= .agg #[.int .i64 op2,.int .i64 nn2,.string s2,.slice p2 pl2 pc2,.slice q2 ql2 qc2,.bool o2,.slice k2 kl2 kc2]) (by simp [results,Tryz.results170,go_sem,m0,m1,m2,m3,m4,m5,m6]) rfl ?_
          have hg:=put7_grown w2 w.heap.size (.int .i64 op2) (.int .i64 nn2) (.string s2) (.slice p2 pl2 pc2) (.slice q2 ql2 qc2) (.bool o2) (.slice k2 kl2 kc2)
          refine .mkY HR.out ⟨⟨op2,nn2,s2,p2,pl2,pc2,q2,ql2,qc2,o2,k2,kl2,kc2⟩,rfl,HEX.out.turn (Nat.le_trans HB2.out.size hg.size) (fun b lt hb=>⟨(hg.block b (Nat.lt_of_lt_of_le lt HB2.out.size) (fun e=>by injection e with e;omega)).trans (HB2.out.block b lt),by omega⟩)⟩ ((hP.out.below HB2.out).grown hg (fun k e=>by cases e;exact hpl)) ((hK.out.trans (.of_below HB2.out)).grown hg (fun k e=>by cases e;exact Nat.le_refl _))
        · have hn1:((LL.length:Int)==1)=false:=by simp;omega
          have HR2:Hid (R= .ok (.mk 11 0 ⟨#[]⟩ [] [] false (LL.map (·.2))) M):=Lib.hid (by rw [HR.out,many_more _ (by rw [hkm];exact h1)])
          clear hb h1 hA HR
          go_wp2_with (go_at_call 204;refine (is_as _ _ _ _ _ _ _ _ _ hP.out HI2').mono ?_;rintro e w2 ⟨rfl,hb⟩;have q3:=hZ.out.below hb;have m0:=q3.cell 0 rfl;have m1:=q3.cell 1 rfl;have m2:=q3.cell 2 rfl;have m3:=q3.cell 3 rfl;have m4:=q3.cell 4 rfl;have m5:=q3.cell 5 rfl;have m6:=q3.cell 6 rfl;have mf:=q3.fz;clear q3;have HB2:=Lib.hid hb;clear hb)
          refine bodyPost_ret (v:= .agg #[.int .i64 11,.int .i64 0,.string ⟨#[]⟩,.slice none 0 0,.slice none 0 0,.bool false,.slice ra LL.length rc]) (by simp [results,Tryz.results170,go_sem,m0,m1,m2,m3,m4,m5,m6]) rfl ?_
          have hg:=put7_grown w2 w.heap.size (.int .i64 11) (.int .i64 0) (.string ⟨#[]⟩) (.slice none 0 0) (.slice none 0 0) (.bool false) (.slice ra LL.length rc)
          have hob:=own_base hO.out
          have hOF:=(hO.out.kept (grown_below HB2.out) (by cases Value.ownBlock _<;>simp)).kept hg (by
            cases hv:(Value.slice ra LL.length rc).ownBlock with
            |none=>exact .inl rfl
            |some g=>exact .inr (fun e=>by injection e with e;have:=hob g hv;omega))
          obtain ⟨a9,c9,e9,hK9⟩:=row_ks (I:=XB (fun b=>w.heap.size≤b) (put7 w2 w.heap.size (.int .i64 11) (.int .i64 0) (.string ⟨#[]⟩) (.slice none 0 0) (.slice none 0 0) (.bool false) (.slice ra LL.length rc))) hOF rfl (by omega) (fun y hy=>(hE.out y hy).turn (Nat.le_trans HB2.out.size hg.size) (fun b lt hb=>⟨(hg.block b (Nat.lt_of_lt_of_le lt HB2.out.size) (fun e=>by injection e with e;omega)).trans (HB2.out.block b lt),by omega⟩))
          cases e9
          exact .mkY HR2.out ⟨⟨11,0,⟨#[]⟩,none,0,0,none,0,0,false,ra,LL.length,rc⟩,rfl,XB.kids 11 hK9 (fun h0 b off e=>by
            subst e
            have:(Value.slice (some (⟨b,off,none⟩:Addr)) LL.length rc).ownBlock=some b:=by simp [Value.ownBlock]
            have:=hob b this
            omega)⟩ ((hP.out.below HB2.out).grown hg (fun k e=>by cases e;exact hpl)) ((hK.out.trans (.of_below HB2.out)).grown hg (fun k e=>by cases e;exact Nat.le_refl _))
      |true=>
        have HI2':Hid (isB (ByteArray.toList ⟨#[38]⟩) M=true):=Lib.hid ((isL [38] M).trans hb)
        by_cases h32:LL.length=32
        · have HR:=Lib.hid (hA.out.full hb (hkm.trans h32))
          obtain ⟨y,hy⟩:∃y,(pk E M).at_=y:=⟨_,rfl⟩
          rw [hy] at HR
          have HX:=Lib.hid hy
          clear hy
          have hn32:((LL.length:Int)==32)=true:=by rw [h32];rfl
          clear hb hA h32
          go_wp2_with (first
            |(go_at_call 204;refine (is_as _ _ _ _ _ _ _ _ _ hP.out HI2').mono ?_;rintro e w2 ⟨rfl,hb⟩;have HB2:=Lib.hid hb;clear hb)
            |(go_at_call 97;refine (fault_as _ _ _ _ _ _ _ _ _ (hP.out.below HB2.out) HX).mono ?_;rintro e w4 ⟨rfl,hb⟩;have HB4:=Lib.hid (bl_step HB2.out hb);clear hb))
          exact ⟨rfl,.mkN HR.out (hK.out.trans (.of_below HB4.out))⟩
        · obtain ⟨t,T,rfl,_,_⟩:=isB_cons hb
          have hn32:((LL.length:Int)==32)=false:=by simp;omega
          have hTL:T.length≤L.length:=by have:=hS.out.length_le;simp at this;omega
          have arm:=fun (W:World) (a:Option Addr) (cap:Nat) (hP:Prs W p a cap T E o)=>Lib.hid (HASK.out W a cap T hTL hP)
          cases hp:part T with
          |bad x y=>
            have HPT:=Lib.hid hp
            have HR:=Lib.hid (hA.out.bad hb (by rw [hkm];exact h32) hp)
            clear hb hA h32 hp
            go_wp2_with (first
              |(go_at_call 204;refine (is_as _ _ _ _ _ _ _ _ _ hP.out HI2').mono ?_;rintro e w2 ⟨rfl,hb⟩;have HB2:=Lib.hid hb;clear hb)
              |(go_at_call 141;refine (pass_any _ _ _ _ _ _ _ _ (hP.out.below HB2.out)).mono ?_;rintro e w3 hq;obtain ⟨v,a3,cp3,rfl,rfl,hP3,hK3⟩:=hq.yes;have HP3:=Lib.hid hP3;have HK3:=Lib.hid ((hK.out.trans (.of_below HB2.out)).trans hK3);clear hP3 hK3 hq)
              |(go_at_call 207;refine (arm _ _ _ HP3.out).out.mono ?_;rintro e w4 hq;rw [HPT.out] at hq;obtain ⟨rfl,hK4⟩:=hq.no;have HK4:=Lib.hid (HK3.out.trans hK4);clear hq hK4))
            exact ⟨rfl,.mkN HR.out HK4.out⟩
          |ok x M'=>
            have HPT:=Lib.hid hp
            obtain ⟨hA',hs',hl'⟩:=hA.out.step HFIT.out hb (by rw [hkm];exact h32) hp
            have HA':Hid (∀y:Hd,KidsAt part E 11 [38] R ((LL++[((y,x):HX)]).map (·.2)) M'):=Lib.hid (fun y=>by rw [List.map_append];exact hA')
            have HS':Hid (M'<:+L):=Lib.hid (hs'.trans ((List.suffix_cons _ _).trans hS.out))
            have HL':=Lib.hid hl'
            clear hb hA hp hA' hs' hl'
            go_wp2_with (first
              |(go_at_call 204;refine (is_as _ _ _ _ _ _ _ _ _ hP.out HI2').mono ?_;rintro e w2 ⟨rfl,hb⟩;have HB2:=Lib.hid hb;clear hb)
              |(go_at_call 141;refine (pass_any _ _ _ _ _ _ _ _ (hP.out.below HB2.out)).mono ?_;rintro e w3 hq;obtain ⟨v,a3,cp3,rfl,rfl,hP3,hK3⟩:=hq.yes;have HP3:=Lib.hid hP3;have HK3:=Lib.hid ((hK.out.trans (.of_below HB2.out)).trans hK3);have HO3:=Lib.hid (owns_keep (hO.out.kept (grown_below HB2.out) (by cases Value.ownBlock _<;>simp)) hK3 (by omega));have HE3:=Lib.hid ((hE.out.below HB2.out).keep hK3 (by omega));have HZ3:=Lib.hid ((hZ.out.below HB2.out).keep hK3 (by omega));clear hP3 hK3 hq)
              | (go_at_call 207; refine (arm _ _ _ HP3.out).out.mono ?_; rintro e w4 hq; rw [HPT.out] at hq; obtain ⟨v, a4, cp4, rfl, hV, hP4, hK4⟩ := hq.yes; obtain ⟨op2, nn2, s2, p2, pl2, pc2, q2, ql2, qc2, o2, k2, kl2, kc2, rfl, hX⟩ := hV.hd
                 have HXN:=Lib.hid (hX.less (Q:=fun b=>w.heap.size+1≤b∧(Value.slice ra LL.length rc).ownBlock≠some b) (fun b lt hb=>⟨by have:=HK3.out.size;have:=HZ3.out.lt;omega,fun e=>by
                   have:=lt_own HO3.out e
                   omega⟩))
                 have HP4:=Lib.hid hP4;have HO4:=Lib.hid (owns_keep HO3.out hK4 (by omega));have HE4:=Lib.hid (HE3.out.keep hK4 (by omega));have HZ4:=Lib.hid (HZ3.out.keep hK4 (by omega));have HK4:=Lib.hid (HK3.out.trans hK4);clear hq hV hX hP4 hK4
                 have HBR:=Lib.hid (bl_alloc (o:= .cells #[.int .i64 op2,.int .i64 nn2,.string s2,.slice p2 pl2 pc2,.slice q2 ql2 qc2,.bool o2,.slice k2 kl2 kc2] 35) (Below.refl w4.heap.size w4))
                 have HCN:Hid (∀r u,[Value.int .i64 op2,.int .i64 nn2,.string s2,.slice p2 pl2 pc2,.slice q2 ql2 qc2,.bool o2,.slice k2 kl2 kc2][r]?=some u→(w4.alloc (.cells #[.int .i64 op2,.int .i64 nn2,.string s2,.slice p2 pl2 pc2,.slice q2 ql2 qc2,.bool o2,.slice k2 kl2 kc2] 35)).cell? ((⟨w4.heap.size,0,none⟩:Addr).add r)=some u):=Lib.hid (World.news_of_block (Lx.heap_new w4 _)))
              |(at_builtin;refine wpList_append_own_at _ rfl _ _ 33 rfl (w.heap.size+1) 35 i0 _ 7 112 Tryz.underlying33 HI.out HI0.out HI1.out HI2.out rfl (by decide) _ LL.length (hcells LL) rfl (HO4.out.alloc _) ⟨w4.heap.size,0,none⟩ 1 1 [Value.int .i64 op2,.int .i64 nn2,.string s2,.slice p2 pl2 pc2,.slice q2 ql2 qc2,.bool o2,.slice k2 kl2 kc2] rfl rfl HCN.out (fun x hx=>by simp at hx;rcases hx with rfl|rfl|rfl|rfl|rfl|rfl|rfl<;>rfl) (by unfold maxLen;omega) (by omega) (by have:=HK4.out.size;have:=HZ4.out.lt;simp;omega) ?_))
            intro v' w6 hown' hgrow hnil hob
            have hbase:=own_base HO4.out
            have HO6:=Lib.hid (show w6.ownsRow (w.heap.size+1) 35 7 v' (LL++[((⟨op2,nn2,s2,p2,pl2,pc2,q2,ql2,qc2,o2,k2,kl2,kc2⟩,x):HX)]).length (hcells (LL++[((⟨op2,nn2,s2,p2,pl2,pc2,q2,ql2,qc2,o2,k2,kl2,kc2⟩,x):HX)])) by rw [hcells_snoc,List.length_append];exact hown')
            have HE6:=Lib.hid (Els.app (y:=(⟨op2,nn2,s2,p2,pl2,pc2,q2,ql2,qc2,o2,k2,kl2,kc2⟩,x)) HE4.out HXN.out HBR.out.size HBR.out hgrow (by rw [World.size_alloc];exact hob))
            have HP6:=Lib.hid ((HP4.out.below HBR.out).grown hgrow (fun k hk=>by have:=hbase k hk;omega))
            have HK6:=Lib.hid ((HK4.out.trans (.of_below HBR.out)).grown hgrow (fun k hk=>by have:=hbase k hk;omega))
            have HZ6:Hid (Bx w6 w.heap.size #[.int .i64 0,.int .i64 0,.string ⟨#[]⟩,.slice none 0 0,.slice none 0 0,.bool false,.slice none 0 0] 35):=Lib.hid ((hgrow.block _ (HZ4.out.below HBR.out).lt (fun e=>by have:=hbase _ e.symm;omega)).trans (HZ4.out.below HBR.out))
            clear hown' hgrow hnil hob hbase
            go_wp2_with fail
            go_roundw
            case rel=>exact ⟨LL++[((⟨op2,nn2,s2,p2,pl2,pc2,q2,ql2,qc2,o2,k2,kl2,kc2⟩,x):HX)],M',a4,cp4,by simp,by simp<;>omega,HA'.out _,HS',HO6,HE6,HP6,HK6,HZ6⟩
            case measure=>rw [HP6.out.leftN,hP.out.leftN];exact HL'.out
end Go.Proofs.YtkfihhagcimcmaaGreatDoor.Ps
