/- Ps -/
import Derived.Test.YtkfihhagcimcmaaGreatDoorChecked
import Derived.Test.YtkfihhagcimcmaaGreatDoorProg
import Derived.Test.YtkfihhagcimcmaaGreatDoorY1
import Derived.Test.YtkfihhagcimcmaaGreatDoorYaz
import Derived.Test.YtkfihhagcimcmaaGreatDoorYba
namespace Go.Proofs.YtkfihhagcimcmaaGreatDoor.Ps
open Go.RowKit
open Lx (Tok bl_alloc)
open Go.Sort (grow PermIn SortedIn HoldsK SWO flatK putRowK)
def FieldsAt (join:List Tok→Res Ex) (E:Int) (R:Res (List (ByteArray×Ex))) (acc:List (ByteArray×Ex)) (M:List Tok):Prop:=∃g,M.length<g∧fieldsF join E g acc M=R
theorem pairM_ok {join:List Tok→Res Ex} {E:Int} {acc:List (ByteArray×Ex)} {M M':List Tok} {q:ByteArray×Ex} (h:pairM join E acc M= .ok q M'):hasB acc q.1=false∧¬acc.length=32:=by
 unfold pairM at h
 split at h
 ·split at h
  ·cases h
  ·rename_i hh
   split at h
   ·cases h
   ·rename_i h32
    obtain ⟨_,L2,e1,h⟩:=bind_ok h
    obtain ⟨y,L3,e2,h⟩:=bind_ok h
    obtain ⟨_,L4,e3,h⟩:=bind_ok h
    cases h
    exact ⟨by simpa using hh,h32⟩
 ·cases h
section
variable {join:List Tok→Res Ex} {E:Int} {R:Res (List (ByteArray×Ex))} {acc:List (ByteArray×Ex)} {M:List Tok} (h:FieldsAt join E R acc M)
include h
theorem FieldsAt.last (hb:isB [46,46,46] M=true∨isB [125] M=true):R= .ok acc M:=by
 obtain ⟨g,hg,h⟩:=h
 cases g with
 |zero=>omega
 |succ g=>rw [fieldsF,if_pos hb] at h;exact h.symm
theorem FieldsAt.bad {a x:Int} (h1:isB [46,46,46] M=false) (h2:isB [125] M=false) (hp:pairM join E acc M= .bad a x):R= .bad a x:=by
 obtain ⟨g,hg,h⟩:=h
 cases g with
 |zero=>omega
 |succ g=>rw [fieldsF,if_neg (by simp [h1,h2]),hp] at h;exact h.symm
theorem FieldsAt.step {q:ByteArray×Ex} {M':List Tok} (hfit:∀L,Fits cnt L (join L)) (h1:isB [46,46,46] M=false) (h2:isB [125] M=false) (hp:pairM join E acc M= .ok q M'):FieldsAt join E R (acc++[q]) M'∧M'<:+M∧M'.length<M.length:=by
 obtain ⟨g,hg,h⟩:=h
 cases g with
 |zero=>omega
 |succ g=>
  rw [fieldsF,if_neg (by simp [h1,h2]),hp] at h
  obtain ⟨s1,c1⟩:=pairM_fits hfit E acc M _ _ hp
  dsimp only at c1
  exact ⟨⟨g,by omega,h⟩,s1,by omega⟩
end
def ElsP (B:Nat) (v:Value) (L:List PX) (w:World):Prop:=∀y∈L,XB (fun b=>B≤b∧v.ownBlock≠some b) w y.2.1 y.2.2
theorem ElsP.keep {B p:Nat} {v:Value} {L:List PX} {w w':World} (h:ElsP B v L w) (hk:Keep p w w') (hp:p<B):ElsP B v L w':=fun y hy=>(h y hy).keep hk (fun e=>by omega)
theorem ElsP.below {B:Nat} {v:Value} {L:List PX} {w w':World} (h:ElsP B v L w) (hb:Below w.heap.size w w'):ElsP B v L w':=fun y hy=>(h y hy).below hb
theorem ElsP.app {B:Nat} {v v':Value} {L:List PX} {y:PX} {w w0 w':World} (h:ElsP B v L w) (hy:XB (fun b=>B≤b∧v.ownBlock≠some b) w y.2.1 y.2.2) (hz:w.heap.size≤w0.heap.size) (h0:Below w.heap.size w w0) (hg:w0.grownBy w' v.ownBlock) (hv:v'.ownBlock=v.ownBlock∨v'.ownBlock=some w0.heap.size):ElsP B v' (L++[y]) w':=by
 have key:∀z:PX,XB (fun b=>B≤b∧v.ownBlock≠some b) w z.2.1 z.2.2→XB (fun b=>B≤b∧v'.ownBlock≠some b) w' z.2.1 z.2.2:=fun z hz2=>hz2.turn (Nat.le_trans hz hg.size) fun b lt hb=>⟨(hg.block b (by omega) (fun e=>hb.2 e.symm)).trans (h0.block b lt),hb.1,fun e=>by
  rcases hv with hv|hv
  ·exact hb.2 (hv.symm.trans e)
  ·rw [hv] at e;injection e with e;omega⟩
 intro z hz2
 rcases List.mem_append.1 hz2 with h1|h1
 ·exact key z (h z h1)
 ·rw [List.mem_singleton.1 h1];exact key y hy
theorem own_sliceP {w:World} {base n:Nat} {v:Value} {xs:List Value} (h:w.ownsRow base 109 8 v n xs):∃a c,v= .slice a n c:=by
 rcases h.2 with ⟨rfl,rfl⟩|⟨g,cap,cur,rfl,_⟩
 ·exact ⟨none,0,rfl⟩
 ·exact ⟨_,cap,rfl⟩
theorem XB.pairs {P:Nat→Prop} {w:World} {a:Option Addr} {l c:Nat} {o:Bool} {ps:List (ByteArray×Ex)} (hk:InPs (XB P w) w a l ps) (hP:0<l→∀b off,a=some ⟨b,off,none⟩→P b):XB P w ⟨10,0,⟨#[]⟩,none,0,0,a,l,c,o,none,0,0⟩ (.mk 10 0 ⟨#[]⟩ [] ps o []):=by
 unfold XB
 rw [show lev (.mk 10 0 ⟨#[]⟩ [] ps o [])=levP ps+1 by rw [lev,levK];omega]
 refine ⟨rfl,rfl,rfl,rfl,by decide,str_nil _,⟨hk.count,hk.max,fun i hi=>?_⟩,ks_nil _ _,fun h=>absurd h (Nat.lt_irrefl 0),hP,fun h=>absurd h (Nat.lt_irrefl 0)⟩
 obtain ⟨b,off,y,e,lt,hs,hc,hx,hI⟩:=hk.at_ i hi
 exact ⟨b,off,y,e,lt,hs,hc,hx,InB.le hI (lev_p (List.getElem_mem hi))⟩
theorem apart_perm {β:Type} {l m:List (ByteArray×β)} (h:Apart l) (hp:l.Perm m):Apart m:=hp.pairwise h (fun h e=>h e.symm)
theorem cmpS_lt {a b:ByteArray} (h:cmpS a b≤0) (hn:¬a.toList=b.toList):Op.bytesLess a.toList b.toList=true:=by
 by_cases h1:Op.bytesLess a.toList b.toList=true
 ·exact h1
 ·unfold cmpS at h
  rw [if_neg h1,if_neg hn] at h
  omega
theorem own_but {w:World} {base E s n x:Nat} {v:Value} {xs:List Value} (h:w.ownsRow base E s v n xs) (hx:x<base):v.ownBlock=none∨v.ownBlock≠some x:=by
 cases hv:v.ownBlock with
 |none=>exact .inl rfl
 |some g=>exact .inr (fun e=>by injection e with e;have:=own_base h g hv;omega)
theorem sorted_is {L d:List PX} (hA:Apart (unP L)) (hp:d.Perm L) (hs:d.Pairwise (fun a b=>cmpS a.1 b.1≤0)):unP d=sortP (unP L):=by
 have hpu:(unP d).Perm (unP L):=hp.map _
 have hAd:=apart_perm hA hpu.symm
 refine rise_eq ?_ (sort_rise hA) (hpu.trans (sort_perm hA).symm)
 unfold unP Apart at hAd
 rw [List.pairwise_map] at hAd
 unfold unP
 rw [List.pairwise_map]
 exact (hs.and hAd).imp fun h=>cmpS_lt h.1 h.2
def SrtP (v:Value) (L:List PX) (w:World) (e:Ending) (w':World):Prop:=e= .returned (.tuple #[])∧∃d:List PX,d.Perm L∧d.Pairwise (fun a b=>cmpS a.1 b.1≤0)∧PRow w' (match v with| .slice a _ _=>a|_=>none) d∧w.grownBy w' v.ownBlock
theorem srt_any (w:World) (base n c:Nat) (a:Option Addr) (L:List PX) (h:w.ownsRow base 109 8 (.slice a n c) n (pcells L)) (hn:n=L.length) (hm:n≤1000000):Calls Tryz.prog 235 #[.slice a n c,.func (.func 236) #[] #[]] w (SrtP (.slice a n c) L w):=by
 rcases h.2 with ⟨e,hn0⟩|⟨g,cap,cur,e,hb,hg,rest⟩
 ·cases e
  have hL:L=[]:=List.length_eq_zero_iff.1 (by omega)
  subst hL
  refine (AnyF.slices_SortFunc_none Tryz.sortP none 0 (.func (.func 236) #[] #[]) w).mono ?_
  rintro e w' ⟨rfl,rfl⟩
  exact ⟨rfl,[],.refl _,.nil,fun j hj=>absurd hj (by simp),World.grownBy.refl _ _⟩
 ·cases e
  have hrow:RowP w g L:=⟨(Array.getElem?_eq_some_iff.1 hg).1,fun o=>by simp [World.frozen?,hg],fun j hj=>own_at h hj⟩
  subst hn
  refine (sortP_any g c L (by omega) w hrow).mono ?_
  rintro e w' ⟨rfl,d,hp,hs,hk,hl,-,hr⟩
  refine ⟨rfl,d,hp,hs,fun j hj=>⟨g,0,rfl,hl,by simpa [T8] using hr j hj⟩,?_⟩
  have e1:(Value.slice (some (⟨g,0,none⟩:Addr)) L.length c).ownBlock=some g:=by simp [Value.ownBlock]
  rw [e1]
  exact hk.grown'
theorem fields_end {w W wt:World} {p cap:Nat} {a:Option Addr} {M:List Tok} {E o:Int} {R:Res Ex} {L d:List PX} {ra:Option Addr} {rc:Nat} (B:Bool) (hR:R= .ok (.mk 10 0 ⟨#[]⟩ [] (sortP (unP L)) B []) M)
  (hp:d.Perm L) (hs:d.Pairwise (fun a b=>cmpS a.1 b.1≤0)) (hr:PRow wt ra d) (hg:W.grownBy wt (Value.slice ra L.length rc).ownBlock) (hO:W.ownsRow (w.heap.size+2) 109 8 (.slice ra L.length rc) L.length (pcells L)) (hE:ElsP (w.heap.size+2) (.slice ra L.length rc) L W) (hA:Apart (unP L)) (hz:∀y∈L,y.1.size≤4096) (hm:L.length≤1000000)
  (hP:Prs W p a cap M E o) (hK:Keep p w W) (hpl:p<w.heap.size):
  PostR (VX w.heap.size) w p E o R (.returned (.agg #[.int .i64 10,.int .i64 0,.string ⟨#[]⟩,.slice none 0 0,.slice ra L.length rc,.bool B,.slice none 0 0])) (put7 wt w.heap.size (.int .i64 10) (.int .i64 0) (.string ⟨#[]⟩) (.slice none 0 0) (.slice ra L.length rc) (.bool B) (.slice none 0 0)):=by
 have hbs:=own_base hO
 have hg2:=put7_grown wt w.heap.size (.int .i64 10) (.int .i64 0) (.string ⟨#[]⟩) (.slice none 0 0) (.slice ra L.length rc) (.bool B) (.slice none 0 0)
 generalize put7 wt w.heap.size (.int .i64 10) (.int .i64 0) (.string ⟨#[]⟩) (.slice none 0 0) (.slice ra L.length rc) (.bool B) (.slice none 0 0)=wz at*
 have hlen:d.length=L.length:=hp.length_eq
 rw [←sorted_is hA hp hs] at hR
 have hrb:∀b off,ra=some ⟨b,off,none⟩→0<L.length→w.heap.size+2≤b:=fun b off e h0=>by
  subst e
  exact hbs b (by simp [Value.ownBlock])
 have hX:XB (fun b=>w.heap.size≤b) wz ⟨10,0,⟨#[]⟩,none,0,0,ra,L.length,rc,B,none,0,0⟩ (.mk 10 0 ⟨#[]⟩ [] (unP d) B []):=by
  refine XB.pairs ⟨by rw [unP_len,hlen],by omega,fun i hi=>?_⟩ (fun h0 b off e=>by have:=hrb b off e h0;omega)
  have hi2:i<d.length:=by rw [←unP_len d];exact hi
  obtain ⟨b,off,e,lt,h0,h1⟩:=hr i hi2
  have hb2:=hrb b off e (by omega)
  have hbz:wz.heap[b]?=wt.heap[b]?:=hg2.block b lt (fun e=>by injection e with e;omega)
  have hmem:d[i]∈L:=hp.mem_iff.1 (List.getElem_mem hi2)
  refine ⟨b,off,d[i].2.1,e,Nat.lt_of_lt_of_le lt hg2.size,?_,?_,HdAt.of h1 hbz,?_⟩
  ·simp only [unP,List.getElem_map];have:=hz _ hmem;omega
  ·simp only [unP,List.getElem_map];exact (cell_of hbz _).trans h0
  ·simp only [unP,List.getElem_map]
   exact (hE _ hmem).turn (Nat.le_trans hg.size hg2.size) (fun b lt hb=>⟨(hg2.block b (Nat.lt_of_lt_of_le lt hg.size) (fun e=>by injection e with e;omega)).trans (hg.block b lt (fun e=>hb.2 e.symm)),by omega⟩)
 exact .mkY hR ⟨_,rfl,hX⟩ ((hP.grown hg (fun k e=>by have:=hbs k e;omega)).grown hg2 (fun k e=>by cases e;exact hpl)) ((hK.grown hg (fun k e=>by have:=hbs k e;omega)).grown hg2 (fun k e=>by cases e;exact Nat.le_refl _))
theorem info109:(Tryz.prog.info? 109).map (fun i=>(i.zero,i.size,i.bytes))=some (some (.agg #[.string ByteArray.empty,.int .i64 0,.int .i64 0,.string ByteArray.empty,.slice none 0 0,.slice none 0 0,.bool false,.slice none 0 0]),8,128):=by kernel_rfl
set_option maxRecDepth 100000 in
set_option maxHeartbeats 8000000 in
theorem fields_any (join:List Tok→Res Ex) (w:World) (p cap:Nat) (a:Option Addr) (Lt:List Tok) (E o:Int) (h:Prs w p a cap Lt E o) (hfit:∀L,Fits cnt L (join L))
  (ask:∀(W:World) (a:Option Addr) (cap:Nat) (M:List Tok),M.length+2≤Lt.length→Prs W p a cap M E o→Calls Tryz.prog 145 #[.pointer (some ⟨p,0,none⟩)] W (PostR (VX W.heap.size) W p E o (join M))):
  Calls Tryz.prog 231 #[.pointer (some ⟨p,0,none⟩)] w (PostR (VX w.heap.size) w p E o (fieldsM join E Lt)):=by
 have H:=Lib.hid h
 have HASK:=Lib.hid ask
 have HFIT:=Lib.hid hfit
 have hpl:=h.lt
 have HB0:=Lib.hid (bl_alloc (o:= .cells #[.int .i64 10,.int .i64 0,.string ⟨#[]⟩,.slice none 0 0,.slice none 0 0,.bool false,.slice none 0 0] 35) (bl_alloc (o:= .cells #[.int .i64 0,.int .i64 0,.string ⟨#[]⟩,.slice none 0 0,.slice none 0 0,.bool false,.slice none 0 0] 35) (Below.refl w.heap.size w)))
 have HZ0:=Lib.hid ((Bx.new w #[.int .i64 0,.int .i64 0,.string ⟨#[]⟩,.slice none 0 0,.slice none 0 0,.bool false,.slice none 0 0] 35).old (.cells #[.int .i64 10,.int .i64 0,.string ⟨#[]⟩,.slice none 0 0,.slice none 0 0,.bool false,.slice none 0 0] 35))
 have HE0:=Lib.hid (Bx.new (w.alloc (.cells #[.int .i64 0,.int .i64 0,.string ⟨#[]⟩,.slice none 0 0,.slice none 0 0,.bool false,.slice none 0 0] 35)) #[.int .i64 10,.int .i64 0,.string ⟨#[]⟩,.slice none 0 0,.slice none 0 0,.bool false,.slice none 0 0] 35)
 have hsw:((w.alloc (.cells #[.int .i64 0,.int .i64 0,.string ⟨#[]⟩,.slice none 0 0,.slice none 0 0,.bool false,.slice none 0 0] 35)).alloc (.cells #[.int .i64 10,.int .i64 0,.string ⟨#[]⟩,.slice none 0 0,.slice none 0 0,.bool false,.slice none 0 0] 35)).heap.size=w.heap.size+2:=by simp
 rw [show (w.alloc (.cells #[.int .i64 0,.int .i64 0,.string ⟨#[]⟩,.slice none 0 0,.slice none 0 0,.bool false,.slice none 0 0] 35)).heap.size=w.heap.size+1 by simp] at HE0
 obtain ⟨R,hR⟩:∃R,fieldsF join E (Lt.length+1) [] Lt=R:=⟨_,rfl⟩
 have HRR:Hid (∀acc M,R= .ok acc M→fieldsM join E Lt= .ok (.mk 10 0 ⟨#[]⟩ [] (sortP acc) (isB [46,46,46] M) []) (if isB [46,46,46] M then M.tail else M)):=Lib.hid (fun acc M e=>by unfold fieldsM;rw [hR,e];rfl)
 have HRB:Hid (∀x y,R= .bad x y→fieldsM join E Lt= .bad x y):=Lib.hid (fun x y e=>by unfold fieldsM;rw [hR,e];rfl)
 have HA:Hid (FieldsAt join E R (unP []) Lt):=Lib.hid ⟨Lt.length+1,by omega,hR⟩
 obtain ⟨RR,hRR⟩:∃RR,fieldsM join E Lt=RR:=⟨_,rfl⟩
 rw [hRR] at HRR HRB⊢
 obtain ⟨i0,hi,hz0,hz1,hz2⟩:=info_parts info109
 have HI:=Lib.hid hi
 have HI0:=Lib.hid hz0
 have HI1:=Lib.hid hz1
 have HI2:=Lib.hid hz2
 clear h ask hfit hR hRR hi hz0 hz1 hz2
 go_enter Tryz.func231,Tryz.ntmps231
 go_wp2_with fail
 obtain ⟨w1,hw1⟩:∃w1,(w.alloc (.cells #[.int .i64 0,.int .i64 0,.string ⟨#[]⟩,.slice none 0 0,.slice none 0 0,.bool false,.slice none 0 0] 35)).alloc (.cells #[.int .i64 10,.int .i64 0,.string ⟨#[]⟩,.slice none 0 0,.slice none 0 0,.bool false,.slice none 0 0] 35)=w1:=⟨_,rfl⟩
 rw [hw1] at HB0 HZ0 HE0 hsw⊢
 clear hw1
 go_loopw [] (fun wr=>∃(L:List PX) (M:List Tok) (a':Option Addr) (cp:Nat) (v:Value),L.length≤32∧Hid (FieldsAt join E R (unP L) M)∧Hid (M<:+Lt)∧Hid (Apart (unP L)∧∀y∈L,y.1.size≤4096)∧Hid (wr.ownsRow (w.heap.size+2) 109 8 v L.length (pcells L))∧Hid (ElsP (w.heap.size+2) v L wr)∧Hid (Bx wr (w.heap.size+1) #[.int .i64 10,.int .i64 0,.string ⟨#[]⟩,.slice none 0 0,v,.bool false,.slice none 0 0] 35)∧Hid (Prs wr p a' cp M E o)∧Hid (Keep p w wr)∧Hid (Bx wr w.heap.size #[.int .i64 0,.int .i64 0,.string ⟨#[]⟩,.slice none 0 0,.slice none 0 0,.bool false,.slice none 0 0] 35)) (fun wr=>leftN wr p)
 case atStart=>exact ⟨[],Lt,a,cap,.slice none 0 0,by decide,HA,Lib.hid List.suffix_rfl,Lib.hid ⟨List.Pairwise.nil,fun y hy=>absurd hy (by simp)⟩,Lib.hid (World.ownsRow_nil _ _ _ _),Lib.hid (fun y hy=>absurd hy (by simp)),HE0,Lib.hid (H.out.below HB0.out),Lib.hid (.of_below HB0.out),HZ0⟩
 case round=>
  obtain ⟨L,M,a',cp,v,h32,hA,hS,hAp,hO,hE,hX,hP,hK,hZ⟩:=hrel
  rename World=>wr
  obtain ⟨ra,rc,rfl⟩:=own_sliceP hO.out
  have g4:=hX.out.cell 4 rfl
  cases hd:isB [46,46,46] M with
  |true=>
   have HM1:Hid (isB (ByteArray.toList ⟨#[46,46,46]⟩) M=true):=Lib.hid ((isL [46,46,46] M).trans hd)
   have HMY:Hid (isB (ByteArray.toList ⟨#[46,46,46]⟩) M=true∧(if true then M.tail else M)=M.tail):=Lib.hid ⟨(isL [46,46,46] M).trans hd,rfl⟩
   have HR:=Lib.hid (HRR.out _ _ (hA.out.last (by simp [hd])))
   rw [hd] at HR
   clear hA hd
   go_wp2_with (first|(go_at_call 204;(with_reducible refine (is_as _ _ _ _ _ _ _ _ _ hP.out HM1).mono ?_);rintro e wa ⟨rfl,hb⟩;have HPa:=Lib.hid (hP.out.below hb);have HKa:=Lib.hid (hK.out.trans (.of_below hb));have HXa:=Lib.hid (hX.out.below hb);have HZa:=Lib.hid (hZ.out.below hb);have HEa:=Lib.hid (hE.out.below hb);have HOa:=Lib.hid (hO.out.kept (grown_below hb) (by cases Value.ownBlock _<;>simp));clear hb)|(go_at_call 164;(with_reducible refine (may_as _ _ _ _ _ _ _ _ _ _ HPa.out HMY).mono ?_);rintro e wm hq;obtain ⟨v,am,cpm,rfl,hvm,hPm,hKm⟩:=hq.yes;obtain rfl:=hvm;have hxm:=HXa.out.keep hKm (by omega);have x5:=hxm.cell 5 rfl;have xf:=hxm.fz;have HKs:=Lib.hid (HKa.out.trans hKm);have HZm:=Lib.hid (HZa.out.keep hKm (by omega));have HEm:=Lib.hid (HEa.out.keep hKm (by omega));have HOm:=Lib.hid (owns_keep HOa.out hKm (by omega));have hgm:wm.grownBy (wm.setCell ⟨w.heap.size+1,5,none⟩ (.bool true)) (some (w.heap.size+1)):=⟨rfl,rfl,rfl,by simp [World.setCell],fun k hk hne=>Below.heap_setCell wm ⟨w.heap.size+1,5,none⟩ _ k (fun e=>hne (by rw [e]))⟩;have HXs:Hid (Bx (wm.setCell ⟨w.heap.size+1,5,none⟩ (.bool true)) (w.heap.size+1) #[.int .i64 10,.int .i64 0,.string ⟨#[]⟩,.slice none 0 0,.slice ra L.length rc,.bool true,.slice none 0 0] 35):=Lib.hid (by have:=hxm.set (i:=5) (v:= .bool true);simp only [List.setIfInBounds_toArray,List.set_cons_succ,List.set_cons_zero] at this;exact this);have y4:=HXs.out.cell 4 rfl;have HZs:=Lib.hid (HZm.out.other (c:=w.heap.size+1) (i:=5) (v:= .bool true) (by omega));have HPs:=Lib.hid (hPm.grown hgm (fun k e=>by cases e;omega));have HKs:=Lib.hid ((HKa.out.trans hKm).grown hgm (fun k e=>by cases e;omega));have HEs:=Lib.hid (show ElsP (w.heap.size+2) (.slice ra L.length rc) L (wm.setCell ⟨w.heap.size+1,5,none⟩ (.bool true)) from fun y hy=>(HEm.out y hy).turn hgm.size (fun b lt hb=>⟨hgm.block b lt (fun e=>by injection e with e;omega),hb⟩));have HOs:=Lib.hid (HOm.out.kept hgm (own_but HOm.out (by omega)));clear hPm hKm hq hxm HZm HEm HOm hgm)|(go_at_call 235;refine (srt_any _ _ _ _ _ L HOs.out rfl (by omega)).mono ?_;rintro e wt ⟨rfl,d,hpd,hsd,hrd,hgd⟩;have HD:=Lib.hid (And.intro hpd (And.intro hsd hrd));have HG:=Lib.hid hgd;have hbs:=own_base HOs.out;have HXt:=(hgd.block _ HXs.out.lt (fun e=>by have:=hbs _ e.symm;omega)).trans HXs.out;have HXt:Bx wt (w.heap.size+1) #[.int .i64 10,.int .i64 0,.string ⟨#[]⟩,.slice none 0 0,.slice ra L.length rc,.bool true,.slice none 0 0] 35:=HXt;have c0:=HXt.cell 0 rfl;have c1:=HXt.cell 1 rfl;have c2:=HXt.cell 2 rfl;have c3:=HXt.cell 3 rfl;have c4:=HXt.cell 4 rfl;have c5:=HXt.cell 5 rfl;have c6:=HXt.cell 6 rfl;have HZt:Bx wt w.heap.size #[.int .i64 0,.int .i64 0,.string ⟨#[]⟩,.slice none 0 0,.slice none 0 0,.bool false,.slice none 0 0] 35:=(hgd.block _ HZs.out.lt (fun e=>by have:=hbs _ e.symm;omega)).trans HZs.out;have m0:=HZt.cell 0 rfl;have m1:=HZt.cell 1 rfl;have m2:=HZt.cell 2 rfl;have m3:=HZt.cell 3 rfl;have m4:=HZt.cell 4 rfl;have m5:=HZt.cell 5 rfl;have m6:=HZt.cell 6 rfl;have mf:=HZt.fz;clear HXt HZt hpd hsd hrd hgd x5 xf;clear y4))
   refine bodyPost_ret (v:= .agg #[.int .i64 10,.int .i64 0,.string ⟨#[]⟩,.slice none 0 0,.slice ra L.length rc,.bool true,.slice none 0 0]) (by simp [results,Tryz.results231,go_sem,m0,m1,m2,m3,m4,m5,m6]) rfl ?_
   exact fields_end true HR.out HD.out.1 HD.out.2.1 HD.out.2.2 HG.out HOs.out HEs.out hAp.out.1 hAp.out.2 (by omega) HPs.out HKs.out hpl
  |false=>
   have HM1:Hid (isB (ByteArray.toList ⟨#[46,46,46]⟩) M=false):=Lib.hid ((isL [46,46,46] M).trans hd)
   cases hc:isB [125] M with
   |true=>
    have HM2:Hid (isB (ByteArray.toList ⟨#[125]⟩) M=true):=Lib.hid ((isL [125] M).trans hc)
    have HMY:Hid (isB (ByteArray.toList ⟨#[46,46,46]⟩) M=false∧(if false then M.tail else M)=M):=Lib.hid ⟨(isL [46,46,46] M).trans hd,rfl⟩
    have HR:=Lib.hid (HRR.out _ _ (hA.out.last (by simp [hd,hc])))
    rw [hd] at HR
    clear hA hd hc
    go_wp2_with (first|(go_at_call 204;(with_reducible refine (is_as _ _ _ _ _ _ _ _ _ hP.out HM1).mono ?_);rintro e wa ⟨rfl,hb⟩;have HPa:=Lib.hid (hP.out.below hb);have HKa:=Lib.hid (hK.out.trans (.of_below hb));have HXa:=Lib.hid (hX.out.below hb);have HZa:=Lib.hid (hZ.out.below hb);have HEa:=Lib.hid (hE.out.below hb);have HOa:=Lib.hid (hO.out.kept (grown_below hb) (by cases Value.ownBlock _<;>simp));clear hb)|(go_at_call 204;(with_reducible refine (is_as _ _ _ _ _ _ _ _ _ HPa.out HM2).mono ?_);rintro e wb ⟨rfl,hb⟩;have HPb:=Lib.hid (HPa.out.below hb);have HKb:=Lib.hid (HKa.out.trans (.of_below hb));have HXb:=Lib.hid (HXa.out.below hb);have HZb:=Lib.hid (HZa.out.below hb);have HEb:=Lib.hid (HEa.out.below hb);have HOb:=Lib.hid (HOa.out.kept (grown_below hb) (by cases Value.ownBlock _<;>simp));clear hb)|(go_at_call 164;(with_reducible refine (may_as _ _ _ _ _ _ _ _ _ _ HPb.out HMY).mono ?_);rintro e wm hq;obtain ⟨v,am,cpm,rfl,hvm,hPm,hKm⟩:=hq.yes;obtain rfl:=hvm;have hxm:=HXb.out.keep hKm (by omega);have x5:=hxm.cell 5 rfl;have xf:=hxm.fz;have HKs:=Lib.hid (HKb.out.trans hKm);have HZm:=Lib.hid (HZb.out.keep hKm (by omega));have HEm:=Lib.hid (HEb.out.keep hKm (by omega));have HOm:=Lib.hid (owns_keep HOb.out hKm (by omega));have hgm:wm.grownBy (wm.setCell ⟨w.heap.size+1,5,none⟩ (.bool false)) (some (w.heap.size+1)):=⟨rfl,rfl,rfl,by simp [World.setCell],fun k hk hne=>Below.heap_setCell wm ⟨w.heap.size+1,5,none⟩ _ k (fun e=>hne (by rw [e]))⟩;have HXs:Hid (Bx (wm.setCell ⟨w.heap.size+1,5,none⟩ (.bool false)) (w.heap.size+1) #[.int .i64 10,.int .i64 0,.string ⟨#[]⟩,.slice none 0 0,.slice ra L.length rc,.bool false,.slice none 0 0] 35):=Lib.hid (by have:=hxm.set (i:=5) (v:= .bool false);simp only [List.setIfInBounds_toArray,List.set_cons_succ,List.set_cons_zero] at this;exact this);have y4:=HXs.out.cell 4 rfl;have HZs:=Lib.hid (HZm.out.other (c:=w.heap.size+1) (i:=5) (v:= .bool false) (by omega));have HPs:=Lib.hid (hPm.grown hgm (fun k e=>by cases e;omega));have HKs:=Lib.hid ((HKb.out.trans hKm).grown hgm (fun k e=>by cases e;omega));have HEs:=Lib.hid (show ElsP (w.heap.size+2) (.slice ra L.length rc) L (wm.setCell ⟨w.heap.size+1,5,none⟩ (.bool false)) from fun y hy=>(HEm.out y hy).turn hgm.size (fun b lt hb=>⟨hgm.block b lt (fun e=>by injection e with e;omega),hb⟩));have HOs:=Lib.hid (HOm.out.kept hgm (own_but HOm.out (by omega)));clear hPm hKm hq hxm HZm HEm HOm hgm)|(go_at_call 235;refine (srt_any _ _ _ _ _ L HOs.out rfl (by omega)).mono ?_;rintro e wt ⟨rfl,d,hpd,hsd,hrd,hgd⟩;have HD:=Lib.hid (And.intro hpd (And.intro hsd hrd));have HG:=Lib.hid hgd;have hbs:=own_base HOs.out;have HXt:=(hgd.block _ HXs.out.lt (fun e=>by have:=hbs _ e.symm;omega)).trans HXs.out;have HXt:Bx wt (w.heap.size+1) #[.int .i64 10,.int .i64 0,.string ⟨#[]⟩,.slice none 0 0,.slice ra L.length rc,.bool false,.slice none 0 0] 35:=HXt;have c0:=HXt.cell 0 rfl;have c1:=HXt.cell 1 rfl;have c2:=HXt.cell 2 rfl;have c3:=HXt.cell 3 rfl;have c4:=HXt.cell 4 rfl;have c5:=HXt.cell 5 rfl;have c6:=HXt.cell 6 rfl;have HZt:Bx wt w.heap.size #[.int .i64 0,.int .i64 0,.string ⟨#[]⟩,.slice none 0 0,.slice none 0 0,.bool false,.slice none 0 0] 35:=(hgd.block _ HZs.out.lt (fun e=>by have:=hbs _ e.symm;omega)).trans HZs.out;have m0:=HZt.cell 0 rfl;have m1:=HZt.cell 1 rfl;have m2:=HZt.cell 2 rfl;have m3:=HZt.cell 3 rfl;have m4:=HZt.cell 4 rfl;have m5:=HZt.cell 5 rfl;have m6:=HZt.cell 6 rfl;have mf:=HZt.fz;clear HXt HZt hpd hsd hrd hgd x5 xf;clear y4))
    refine bodyPost_ret (v:= .agg #[.int .i64 10,.int .i64 0,.string ⟨#[]⟩,.slice none 0 0,.slice ra L.length rc,.bool false,.slice none 0 0]) (by simp [results,Tryz.results231,go_sem,m0,m1,m2,m3,m4,m5,m6]) rfl ?_
    exact fields_end false HR.out HD.out.1 HD.out.2.1 HD.out.2.2 HG.out HOs.out HEs.out hAp.out.1 hAp.out.2 (by omega) HPs.out HKs.out hpl
   |false=>
    have HM2:Hid (isB (ByteArray.toList ⟨#[125]⟩) M=false):=Lib.hid ((isL [125] M).trans hc)
    cases hp:pairM join E (unP L) M with
    |bad x y=>
     have HPT:=Lib.hid hp
     have HR:=Lib.hid (HRB.out _ _ (hA.out.bad hd hc hp))
     clear hA hp hd hc g4
     go_upto_region 3 with (first|(go_at_call 204;(with_reducible refine (is_as _ _ _ _ _ _ _ _ _ hP.out HM1).mono ?_);rintro e wa ⟨rfl,hb⟩;have HPa:=Lib.hid (hP.out.below hb);have HKa:=Lib.hid (hK.out.trans (.of_below hb));have HXa:=Lib.hid (hX.out.below hb);have HZa:=Lib.hid (hZ.out.below hb);have HEa:=Lib.hid (hE.out.below hb);have HOa:=Lib.hid (hO.out.kept (grown_below hb) (by cases Value.ownBlock _<;>simp));clear hb)|(go_at_call 204;(with_reducible refine (is_as _ _ _ _ _ _ _ _ _ HPa.out HM2).mono ?_);rintro e wb ⟨rfl,hb⟩;have HPb:=Lib.hid (HPa.out.below hb);have HKb:=Lib.hid (HKa.out.trans (.of_below hb));have HXb:=Lib.hid (HXa.out.below hb);have HZb:=Lib.hid (HZa.out.below hb);have HEb:=Lib.hid (HEa.out.below hb);have HOb:=Lib.hid (HOa.out.kept (grown_below hb) (by cases Value.ownBlock _<;>simp));clear hb))
     obtain ⟨wd,hwd⟩:∃wd:World,wd={wb with drawn:=wb.drawn+1}:=⟨_,rfl⟩
     have hbd:Below wb.heap.size wb wd:=by rw [hwd];exact (Below.refl _ wb).drew
     refine wp_region_held (S:=fun _=>True) (by kernel_rfl) ?_
     rw [←hwd]
     clear hwd
     have HPd:=Lib.hid (HPb.out.below hbd)
     have HKd:=Lib.hid (HKb.out.trans (.of_below hbd))
     have HXd:=Lib.hid (HXb.out.below hbd)
     have HZd:=Lib.hid (HZb.out.below hbd)
     have HEd:=Lib.hid (HEb.out.below hbd)
     have HOd:=Lib.hid (HOb.out.kept (grown_below hbd) (by cases Value.ownBlock _<;>simp))
     obtain ⟨ra9,rc9,e9,hL9⟩:=prow_own HOd.out
     injection e9 with e91 e92 e93
     subst e91 e93
     have HLd:=Lib.hid hL9
     have g4:=HXd.out.cell 4 rfl
     have arm:=fun (W:World) (a:Option Addr) (cap:Nat) (M':List Tok) (hl:M'.length+2≤M.length) (hP:Prs W p a cap M' E o)=>HASK.out W a cap M' (Nat.le_trans hl hS.out.length_le) hP
     clear hbd hL9 e92
     refine take_at' (i:=0) 13 (v:= .pointer (some ⟨w.heap.size+1,4,none⟩)) rfl rfl (by kernel_rfl) (by kernel_rfl) (by kernel_rfl) (fun _ _ _ h=>h) (Or.inl ⟨by rfl,fun w' _=>by go_simp⟩) trivial ?_
     refine take_at' (i:=2) 15 (v:= .pointer (some ⟨p,0,none⟩)) rfl rfl (by kernel_rfl) (by kernel_rfl) (by kernel_rfl) (fun _ _ _ h=>h) (Or.inl ⟨by rfl,fun w' _=>by go_simp⟩) trivial ?_
     refine take_at' (i:=3) 16 (v:= .pointer (some ⟨w.heap.size+1,4,none⟩)) rfl rfl (by kernel_rfl) (by kernel_rfl) (by kernel_rfl) (fun _ _ _ h=>h) (Or.inl ⟨by rfl,fun w' _=>by go_simp⟩) trivial ?_
     simp only [List.setIfInBounds_toArray,List.set_cons_succ,List.set_cons_zero]
     refine wpAnyH_all (rs:=[1,4]) (by kernel_rfl) (by simp) ?_
     intro i hi
     have hi2:i=1∨i=4:=by simpa using hi
     rcases hi2 with rfl|rfl
     ·refine value_at 14 (v:= .slice ra L.length rc) (w':=wd) rfl rfl rfl (by go_simp) ⟨trivial,?_⟩
      simp only [List.setIfInBounds_toArray,List.set_cons_succ,List.set_cons_zero]
      refine wpAnyH_all (rs:=[4]) (by kernel_rfl) (by simp) ?_
      intro i hi
      obtain rfl:i=4:=by simpa using hi
      refine value_at 17 (v:= .slice ra L.length rc) (w':=wd) rfl rfl rfl (by go_simp) ⟨trivial,?_⟩
      simp only [List.setIfInBounds_toArray,List.set_cons_succ,List.set_cons_zero]
      refine wpAnyH_all (rs:=[5]) (by kernel_rfl) (by simp) ?_
      intro i hi
      obtain rfl:i=5:=by simpa using hi
      refine call_pan 18 (f:=234) (args:=#[.pointer (some ⟨p,0,none⟩),.slice ra L.length rc]) (w':=wd) rfl rfl rfl (by go_simp) ((pair_any join wd p _ _ M E o L ra L.length rc HPd.out rfl h32 HLd.out arm).mono ?_)
      rintro e Z hq
      rw [HPT.out] at hq
      obtain ⟨rfl,hK4⟩:=hq.no
      exact .inr ⟨_,rfl,rfl,.mkN HR.out (HKd.out.trans hK4)⟩
     ·refine value_at 17 (v:= .slice ra L.length rc) (w':=wd) rfl rfl rfl (by go_simp) ⟨trivial,?_⟩
      simp only [List.setIfInBounds_toArray,List.set_cons_succ,List.set_cons_zero]
      refine wpAnyH_all (rs:=[1,5]) (by kernel_rfl) (by simp) ?_
      intro i hi
      have hi2:i=1∨i=5:=by simpa using hi
      rcases hi2 with rfl|rfl
      ·refine value_at 14 (v:= .slice ra L.length rc) (w':=wd) rfl rfl rfl (by go_simp) ⟨trivial,?_⟩
       simp only [List.setIfInBounds_toArray,List.set_cons_succ,List.set_cons_zero]
       refine wpAnyH_all (rs:=[5]) (by kernel_rfl) (by simp) ?_
       intro i hi
       obtain rfl:i=5:=by simpa using hi
       refine call_pan 18 (f:=234) (args:=#[.pointer (some ⟨p,0,none⟩),.slice ra L.length rc]) (w':=wd) rfl rfl rfl (by go_simp) ((pair_any join wd p _ _ M E o L ra L.length rc HPd.out rfl h32 HLd.out arm).mono ?_)
       rintro e Z hq
       rw [HPT.out] at hq
       obtain ⟨rfl,hK4⟩:=hq.no
       exact .inr ⟨_,rfl,rfl,.mkN HR.out (HKd.out.trans hK4)⟩
      ·refine call_pan 18 (f:=234) (args:=#[.pointer (some ⟨p,0,none⟩),.slice ra L.length rc]) (w':=wd) rfl rfl rfl (by go_simp) ((pair_any join wd p _ _ M E o L ra L.length rc HPd.out rfl h32 HLd.out arm).mono ?_)
       rintro e Z hq
       rw [HPT.out] at hq
       obtain ⟨rfl,hK4⟩:=hq.no
       exact .inr ⟨_,rfl,rfl,.mkN HR.out (HKd.out.trans hK4)⟩
    |ok q M'=>
     obtain ⟨nm5,x5⟩:=q
     have HPT:=Lib.hid hp
     obtain ⟨hA',hs',hl'⟩:=hA.out.step HFIT.out hd hc hp
     obtain ⟨hh1,hh2⟩:=pairM_ok hp
     rw [unP_len] at hh2
     have HA':Hid (∀y:Hd,FieldsAt join E R (unP (L++[((nm5,(y,x5)):PX)])) M'):=Lib.hid (fun y=>by unfold unP;rw [List.map_append];exact hA')
     have HAP':Hid (∀y:Hd,Apart (unP (L++[((nm5,(y,x5)):PX)]))):=Lib.hid (fun y=>by unfold unP;rw [List.map_append];exact has_app hAp.out.1 hh1)
     have HS':Hid (M'<:+Lt):=Lib.hid (hs'.trans hS.out)
     have HL':=Lib.hid hl'
     clear hA hp hd hc hA' hs' hl' hh1 g4
     go_upto_region 3 with (first|(go_at_call 204;(with_reducible refine (is_as _ _ _ _ _ _ _ _ _ hP.out HM1).mono ?_);rintro e wa ⟨rfl,hb⟩;have HPa:=Lib.hid (hP.out.below hb);have HKa:=Lib.hid (hK.out.trans (.of_below hb));have HXa:=Lib.hid (hX.out.below hb);have HZa:=Lib.hid (hZ.out.below hb);have HEa:=Lib.hid (hE.out.below hb);have HOa:=Lib.hid (hO.out.kept (grown_below hb) (by cases Value.ownBlock _<;>simp));clear hb)|(go_at_call 204;(with_reducible refine (is_as _ _ _ _ _ _ _ _ _ HPa.out HM2).mono ?_);rintro e wb ⟨rfl,hb⟩;have HPb:=Lib.hid (HPa.out.below hb);have HKb:=Lib.hid (HKa.out.trans (.of_below hb));have HXb:=Lib.hid (HXa.out.below hb);have HZb:=Lib.hid (HZa.out.below hb);have HEb:=Lib.hid (HEa.out.below hb);have HOb:=Lib.hid (HOa.out.kept (grown_below hb) (by cases Value.ownBlock _<;>simp));clear hb))
     obtain ⟨wd,hwd⟩:∃wd:World,wd={wb with drawn:=wb.drawn+1}:=⟨_,rfl⟩
     have hbd:Below wb.heap.size wb wd:=by rw [hwd];exact (Below.refl _ wb).drew
     refine wp_region_held (S:=fun _=>True) (by kernel_rfl) ?_
     rw [←hwd]
     clear hwd
     have HPd:=Lib.hid (HPb.out.below hbd)
     have HKd:=Lib.hid (HKb.out.trans (.of_below hbd))
     have HXd:=Lib.hid (HXb.out.below hbd)
     have HZd:=Lib.hid (HZb.out.below hbd)
     have HEd:=Lib.hid (HEb.out.below hbd)
     have HOd:=Lib.hid (HOb.out.kept (grown_below hbd) (by cases Value.ownBlock _<;>simp))
     obtain ⟨ra9,rc9,e9,hL9⟩:=prow_own HOd.out
     injection e9 with e91 e92 e93
     subst e91 e93
     have HLd:=Lib.hid hL9
     have g4:=HXd.out.cell 4 rfl
     have arm:=fun (W:World) (a:Option Addr) (cap:Nat) (M':List Tok) (hl:M'.length+2≤M.length) (hP:Prs W p a cap M' E o)=>HASK.out W a cap M' (Nat.le_trans hl hS.out.length_le) hP
     clear hbd hL9 e92
     refine take_at' (i:=0) 13 (v:= .pointer (some ⟨w.heap.size+1,4,none⟩)) rfl rfl (by kernel_rfl) (by kernel_rfl) (by kernel_rfl) (fun _ _ _ h=>h) (Or.inl ⟨by rfl,fun w' _=>by go_simp⟩) trivial ?_
     refine take_at' (i:=2) 15 (v:= .pointer (some ⟨p,0,none⟩)) rfl rfl (by kernel_rfl) (by kernel_rfl) (by kernel_rfl) (fun _ _ _ h=>h) (Or.inl ⟨by rfl,fun w' _=>by go_simp⟩) trivial ?_
     refine take_at' (i:=3) 16 (v:= .pointer (some ⟨w.heap.size+1,4,none⟩)) rfl rfl (by kernel_rfl) (by kernel_rfl) (by kernel_rfl) (fun _ _ _ h=>h) (Or.inl ⟨by rfl,fun w' _=>by go_simp⟩) trivial ?_
     simp only [List.setIfInBounds_toArray,List.set_cons_succ,List.set_cons_zero]
     refine wpAnyH_all (rs:=[1,4]) (by kernel_rfl) (by simp) ?_
     intro i hi
     have hi2:i=1∨i=4:=by simpa using hi
     rcases hi2 with rfl|rfl
     ·refine value_at 14 (v:= .slice ra L.length rc) (w':=wd) rfl rfl rfl (by go_simp) ⟨trivial,?_⟩
      simp only [List.setIfInBounds_toArray,List.set_cons_succ,List.set_cons_zero]
      refine wpAnyH_all (rs:=[4]) (by kernel_rfl) (by simp) ?_
      intro i hi
      obtain rfl:i=4:=by simpa using hi
      refine value_at 17 (v:= .slice ra L.length rc) (w':=wd) rfl rfl rfl (by go_simp) ⟨trivial,?_⟩
      simp only [List.setIfInBounds_toArray,List.set_cons_succ,List.set_cons_zero]
      refine wpAnyH_all (rs:=[5]) (by kernel_rfl) (by simp) ?_
      intro i hi
      obtain rfl:i=5:=by simpa using hi
      refine call_pan 18 (f:=234) (args:=#[.pointer (some ⟨p,0,none⟩),.slice ra L.length rc]) (w':=wd) rfl rfl rfl (by go_simp) ((pair_any join wd p _ _ M E o L ra L.length rc HPd.out rfl h32 HLd.out arm).mono ?_)
      rintro e Z hq
      rw [HPT.out] at hq
      obtain ⟨v,a4,cp4,rfl,⟨⟨op4,nn4,s4,p4,pl4,pc4,q4,ql4,qc4,o4,k4,kl4,kc4⟩,hv4,hX4,hs4⟩,hP4,hK4⟩:=hq.yes
      unfold Hd.pair at hv4
      dsimp only at hv4 hX4 hs4
      subst hv4
      refine .inl ⟨_,rfl,trivial,?_⟩
      have hB4:=HXd.out.keep hK4 (by omega)
      have hZ4:=HZd.out.keep hK4 (by omega)
      have hE4:=HEd.out.keep hK4 (by omega)
      have hO4:=owns_keep HOd.out hK4 (by omega)
      have c4:=hB4.cell 4 rfl
      have e4:=past c4
      simp only [List.setIfInBounds_toArray,List.set_cons_succ,List.set_cons_zero]
      refine wpAnyH_all (rs:=[6]) (by kernel_rfl) (by simp) ?_
      intro i hi
      obtain rfl:i=6:=by simpa using hi
      refine value_at 19 (v:= .slice (some ⟨Z.heap.size,0,none⟩) 1 1) (w':=Z.alloc (.cells #[.string nm5,.int .i64 op4,.int .i64 nn4,.string s4,.slice p4 pl4 pc4,.slice q4 ql4 qc4,.bool o4,.slice k4 kl4 kc4] 109)) rfl rfl rfl (by go_simp) ⟨trivial,?_⟩
      simp only [List.setIfInBounds_toArray,List.set_cons_succ,List.set_cons_zero]
      refine wpAnyH_all (rs:=[7]) (by kernel_rfl) (by simp) ?_
      intro i hi
      obtain rfl:i=7:=by simpa using hi
      have hbr:=bl_alloc (o:= .cells #[.string nm5,.int .i64 op4,.int .i64 nn4,.string s4,.slice p4 pl4 pc4,.slice q4 ql4 qc4,.bool o4,.slice k4 kl4 kc4] 109) (Below.refl Z.heap.size Z)
      have hcn:∀r u,[Value.string nm5,.int .i64 op4,.int .i64 nn4,.string s4,.slice p4 pl4 pc4,.slice q4 ql4 qc4,.bool o4,.slice k4 kl4 kc4][r]?=some u→(Z.alloc (.cells #[.string nm5,.int .i64 op4,.int .i64 nn4,.string s4,.slice p4 pl4 pc4,.slice q4 ql4 qc4,.bool o4,.slice k4 kl4 kc4] 109)).cell? ((⟨Z.heap.size,0,none⟩:Addr).add r)=some u:=World.news_of_block (Lx.heap_new Z _)
      obtain ⟨v',Y,hrun,hown',hgrow,hnil,hob⟩:=run_append_own_at (P:=Tryz.prog) (Z.alloc (.cells #[.string nm5,.int .i64 op4,.int .i64 nn4,.string s4,.slice p4 pl4 pc4,.slice q4 ql4 qc4,.bool o4,.slice k4 kl4 kc4] 109)) (w.heap.size+2) 32 32 109 i0 _ 8 128 Tryz.underlying32 HI.out HI0.out HI1.out HI2.out rfl (by decide) (.slice ra L.length rc) L.length (pcells L) (hO4.alloc _) ⟨Z.heap.size,0,none⟩ 1 1 [Value.string nm5,.int .i64 op4,.int .i64 nn4,.string s4,.slice p4 pl4 pc4,.slice q4 ql4 qc4,.bool o4,.slice k4 kl4 kc4] rfl hcn (fun x hx=>by simp at hx;rcases hx with rfl|rfl|rfl|rfl|rfl|rfl|rfl|rfl<;>rfl) (by unfold maxLen;omega) (by omega) (by have h1:=HZd.out.lt;have h2:=hK4.size;have h3:=HXd.out.lt;simp;omega)
      refine value_at 20 (v:=v') (w':=Y) rfl rfl rfl (append_run rfl rfl rfl hrun) ⟨trivial,?_⟩
      have hbase:=own_base hO4
      obtain ⟨ra6,rc6,hv6⟩:=own_sliceP hown'
      have hBy:Bx Y (w.heap.size+1) #[.int .i64 10,.int .i64 0,.string ⟨#[]⟩,.slice none 0 0,.slice ra L.length rc,.bool false,.slice none 0 0] 35:=(hgrow.block _ (hB4.below hbr).lt (fun e=>by have:=hbase _ e.symm;omega)).trans (hB4.below hbr)
      have d4:=hBy.cell 4 rfl
      have df:=hBy.fz
      simp only [List.setIfInBounds_toArray,List.set_cons_succ,List.set_cons_zero]
      refine wpAnyH_all (rs:=[8]) (by kernel_rfl) (by simp) ?_
      intro i hi
      obtain rfl:i=8:=by simpa using hi
      refine value_at 21 (v:= .pointer (some ⟨w.heap.size+1,4,none⟩)) (w':=Y) rfl rfl rfl (by go_simp) ⟨trivial,?_⟩
      simp only [List.setIfInBounds_toArray,List.set_cons_succ,List.set_cons_zero]
      refine wpAnyH_all (rs:=[9]) (by kernel_rfl) (by simp) ?_
      intro i hi
      obtain rfl:i=9:=by simpa using hi
      refine skip_at (w':=Y.setCell ⟨w.heap.size+1,4,none⟩ v') rfl rfl rfl (by subst hv6;go_simp) ⟨trivial,?_⟩
      refine wpAnyH_done (by kernel_rfl) ?_ _
      have hgs:Y.grownBy (Y.setCell ⟨w.heap.size+1,4,none⟩ v') (some (w.heap.size+1)):=⟨rfl,rfl,rfl,by simp [World.setCell],fun k hk hne=>Below.heap_setCell Y ⟨w.heap.size+1,4,none⟩ _ k (fun e=>hne (by rw [e]))⟩
      have HX6:Hid (Bx (Y.setCell ⟨w.heap.size+1,4,none⟩ v') (w.heap.size+1) #[.int .i64 10,.int .i64 0,.string ⟨#[]⟩,.slice none 0 0,v',.bool false,.slice none 0 0] 35):=Lib.hid (by have:=hBy.set (i:=4) (v:=v');simp only [List.setIfInBounds_toArray,List.set_cons_succ,List.set_cons_zero] at this;exact this)
      have hXn:=hX4.less (Q:=fun b=>w.heap.size+2≤b∧(Value.slice ra L.length rc).ownBlock≠some b) (fun b lt hb=>⟨by have h1:=HXd.out.lt;have hb2:_≤b:=hb;omega,fun e=>by have h1:=lt_own HOd.out e;have hb2:_≤b:=hb;omega⟩)
      have hE5:=ElsP.app (y:=(nm5,((⟨op4,nn4,s4,p4,pl4,pc4,q4,ql4,qc4,o4,k4,kl4,kc4⟩,x5):HX))) hE4 hXn hbr.size hbr hgrow hob
      have HE6:Hid (ElsP (w.heap.size+2) v' (L++[(nm5,((⟨op4,nn4,s4,p4,pl4,pc4,q4,ql4,qc4,o4,k4,kl4,kc4⟩,x5):HX))]) (Y.setCell ⟨w.heap.size+1,4,none⟩ v')):=Lib.hid (fun y hy=>(hE5 y hy).turn hgs.size (fun b lt hb=>⟨hgs.block b lt (fun e=>by injection e with e;omega),hb⟩))
      have HO6:=Lib.hid (show (Y.setCell ⟨w.heap.size+1,4,none⟩ v').ownsRow (w.heap.size+2) 109 8 v' (L++[(nm5,((⟨op4,nn4,s4,p4,pl4,pc4,q4,ql4,qc4,o4,k4,kl4,kc4⟩,x5):HX))]).length (pcells (L++[(nm5,((⟨op4,nn4,s4,p4,pl4,pc4,q4,ql4,qc4,o4,k4,kl4,kc4⟩,x5):HX))])) by
       rw [pcells_snoc,List.length_append]
       exact World.ownsRow.kept hown' hgs (own_but hown' (by omega)))
      have HP6:=Lib.hid (((hP4.below hbr).grown hgrow (fun k hk=>by have:=hbase k hk;omega)).grown hgs (fun k e=>by cases e;omega))
      have HK6:=Lib.hid ((((HKd.out.trans hK4).trans (.of_below hbr)).grown hgrow (fun k hk=>by have:=hbase k hk;omega)).grown hgs (fun k e=>by cases e;omega))
      have hZ5:Bx Y w.heap.size #[.int .i64 0,.int .i64 0,.string ⟨#[]⟩,.slice none 0 0,.slice none 0 0,.bool false,.slice none 0 0] 35:=(hgrow.block _ (hZ4.below hbr).lt (fun e=>by have:=hbase _ e.symm;omega)).trans (hZ4.below hbr)
      have HZ6:=Lib.hid (hZ5.other (c:=w.heap.size+1) (i:=4) (v:=v') (by omega))
      have HSZ:=Lib.hid (show ∀y∈L++[(nm5,((⟨op4,nn4,s4,p4,pl4,pc4,q4,ql4,qc4,o4,k4,kl4,kc4⟩,x5):HX))],y.1.size≤4096 from fun y hy=>(List.mem_append.1 hy).elim (hAp.out.2 y) (fun hy=>by rw [List.mem_singleton.1 hy];exact hs4))
      generalize Y.setCell ⟨w.heap.size+1,4,none⟩ v'=w6 at*
      clear hq hX4 hP4 hK4 hB4 hZ4 hE4 hO4 hbr hcn hrun hown' hgrow hnil hob hbase hv6 hBy hgs hXn hE5 hZ5 c4 e4 d4 df
      go_wp2_with fail
      go_roundw
      case rel=>exact ⟨L++[(nm5,((⟨op4,nn4,s4,p4,pl4,pc4,q4,ql4,qc4,o4,k4,kl4,kc4⟩,x5):HX))],M',a4,cp4,v',by simp;omega,HA'.out ⟨op4,nn4,s4,p4,pl4,pc4,q4,ql4,qc4,o4,k4,kl4,kc4⟩,HS',Lib.hid ⟨HAP'.out ⟨op4,nn4,s4,p4,pl4,pc4,q4,ql4,qc4,o4,k4,kl4,kc4⟩,HSZ.out⟩,HO6,HE6,HX6,HP6,HK6,HZ6⟩
      case measure=>rw [HP6.out.leftN,hP.out.leftN];exact HL'.out
     ·refine value_at 17 (v:= .slice ra L.length rc) (w':=wd) rfl rfl rfl (by go_simp) ⟨trivial,?_⟩
      simp only [List.setIfInBounds_toArray,List.set_cons_succ,List.set_cons_zero]
      refine wpAnyH_all (rs:=[1,5]) (by kernel_rfl) (by simp) ?_
      intro i hi
      have hi2:i=1∨i=5:=by simpa using hi
      rcases hi2 with rfl|rfl
      ·refine value_at 14 (v:= .slice ra L.length rc) (w':=wd) rfl rfl rfl (by go_simp) ⟨trivial,?_⟩
       simp only [List.setIfInBounds_toArray,List.set_cons_succ,List.set_cons_zero]
       refine wpAnyH_all (rs:=[5]) (by kernel_rfl) (by simp) ?_
       intro i hi
       obtain rfl:i=5:=by simpa using hi
       refine call_pan 18 (f:=234) (args:=#[.pointer (some ⟨p,0,none⟩),.slice ra L.length rc]) (w':=wd) rfl rfl rfl (by go_simp) ((pair_any join wd p _ _ M E o L ra L.length rc HPd.out rfl h32 HLd.out arm).mono ?_)
       rintro e Z hq
       rw [HPT.out] at hq
       obtain ⟨v,a4,cp4,rfl,⟨⟨op4,nn4,s4,p4,pl4,pc4,q4,ql4,qc4,o4,k4,kl4,kc4⟩,hv4,hX4,hs4⟩,hP4,hK4⟩:=hq.yes
       unfold Hd.pair at hv4
       dsimp only at hv4 hX4 hs4
       subst hv4
       refine .inl ⟨_,rfl,trivial,?_⟩
       have hB4:=HXd.out.keep hK4 (by omega)
       have hZ4:=HZd.out.keep hK4 (by omega)
       have hE4:=HEd.out.keep hK4 (by omega)
       have hO4:=owns_keep HOd.out hK4 (by omega)
       have c4:=hB4.cell 4 rfl
       have e4:=past c4
       simp only [List.setIfInBounds_toArray,List.set_cons_succ,List.set_cons_zero]
       refine wpAnyH_all (rs:=[6]) (by kernel_rfl) (by simp) ?_
       intro i hi
       obtain rfl:i=6:=by simpa using hi
       refine value_at 19 (v:= .slice (some ⟨Z.heap.size,0,none⟩) 1 1) (w':=Z.alloc (.cells #[.string nm5,.int .i64 op4,.int .i64 nn4,.string s4,.slice p4 pl4 pc4,.slice q4 ql4 qc4,.bool o4,.slice k4 kl4 kc4] 109)) rfl rfl rfl (by go_simp) ⟨trivial,?_⟩
       simp only [List.setIfInBounds_toArray,List.set_cons_succ,List.set_cons_zero]
       refine wpAnyH_all (rs:=[7]) (by kernel_rfl) (by simp) ?_
       intro i hi
       obtain rfl:i=7:=by simpa using hi
       have hbr:=bl_alloc (o:= .cells #[.string nm5,.int .i64 op4,.int .i64 nn4,.string s4,.slice p4 pl4 pc4,.slice q4 ql4 qc4,.bool o4,.slice k4 kl4 kc4] 109) (Below.refl Z.heap.size Z)
       have hcn:∀r u,[Value.string nm5,.int .i64 op4,.int .i64 nn4,.string s4,.slice p4 pl4 pc4,.slice q4 ql4 qc4,.bool o4,.slice k4 kl4 kc4][r]?=some u→(Z.alloc (.cells #[.string nm5,.int .i64 op4,.int .i64 nn4,.string s4,.slice p4 pl4 pc4,.slice q4 ql4 qc4,.bool o4,.slice k4 kl4 kc4] 109)).cell? ((⟨Z.heap.size,0,none⟩:Addr).add r)=some u:=World.news_of_block (Lx.heap_new Z _)
       obtain ⟨v',Y,hrun,hown',hgrow,hnil,hob⟩:=run_append_own_at (P:=Tryz.prog) (Z.alloc (.cells #[.string nm5,.int .i64 op4,.int .i64 nn4,.string s4,.slice p4 pl4 pc4,.slice q4 ql4 qc4,.bool o4,.slice k4 kl4 kc4] 109)) (w.heap.size+2) 32 32 109 i0 _ 8 128 Tryz.underlying32 HI.out HI0.out HI1.out HI2.out rfl (by decide) (.slice ra L.length rc) L.length (pcells L) (hO4.alloc _) ⟨Z.heap.size,0,none⟩ 1 1 [Value.string nm5,.int .i64 op4,.int .i64 nn4,.string s4,.slice p4 pl4 pc4,.slice q4 ql4 qc4,.bool o4,.slice k4 kl4 kc4] rfl hcn (fun x hx=>by simp at hx;rcases hx with rfl|rfl|rfl|rfl|rfl|rfl|rfl|rfl<;>rfl) (by unfold maxLen;omega) (by omega) (by have h1:=HZd.out.lt;have h2:=hK4.size;have h3:=HXd.out.lt;simp;omega)
       refine value_at 20 (v:=v') (w':=Y) rfl rfl rfl (append_run rfl rfl rfl hrun) ⟨trivial,?_⟩
       have hbase:=own_base hO4
       obtain ⟨ra6,rc6,hv6⟩:=own_sliceP hown'
       have hBy:Bx Y (w.heap.size+1) #[.int .i64 10,.int .i64 0,.string ⟨#[]⟩,.slice none 0 0,.slice ra L.length rc,.bool false,.slice none 0 0] 35:=(hgrow.block _ (hB4.below hbr).lt (fun e=>by have:=hbase _ e.symm;omega)).trans (hB4.below hbr)
       have d4:=hBy.cell 4 rfl
       have df:=hBy.fz
       simp only [List.setIfInBounds_toArray,List.set_cons_succ,List.set_cons_zero]
       refine wpAnyH_all (rs:=[8]) (by kernel_rfl) (by simp) ?_
       intro i hi
       obtain rfl:i=8:=by simpa using hi
       refine value_at 21 (v:= .pointer (some ⟨w.heap.size+1,4,none⟩)) (w':=Y) rfl rfl rfl (by go_simp) ⟨trivial,?_⟩
       simp only [List.setIfInBounds_toArray,List.set_cons_succ,List.set_cons_zero]
       refine wpAnyH_all (rs:=[9]) (by kernel_rfl) (by simp) ?_
       intro i hi
       obtain rfl:i=9:=by simpa using hi
       refine skip_at (w':=Y.setCell ⟨w.heap.size+1,4,none⟩ v') rfl rfl rfl (by subst hv6;go_simp) ⟨trivial,?_⟩
       refine wpAnyH_done (by kernel_rfl) ?_ _
       have hgs:Y.grownBy (Y.setCell ⟨w.heap.size+1,4,none⟩ v') (some (w.heap.size+1)):=⟨rfl,rfl,rfl,by simp [World.setCell],fun k hk hne=>Below.heap_setCell Y ⟨w.heap.size+1,4,none⟩ _ k (fun e=>hne (by rw [e]))⟩
       have HX6:Hid (Bx (Y.setCell ⟨w.heap.size+1,4,none⟩ v') (w.heap.size+1) #[.int .i64 10,.int .i64 0,.string ⟨#[]⟩,.slice none 0 0,v',.bool false,.slice none 0 0] 35):=Lib.hid (by have:=hBy.set (i:=4) (v:=v');simp only [List.setIfInBounds_toArray,List.set_cons_succ,List.set_cons_zero] at this;exact this)
       have hXn:=hX4.less (Q:=fun b=>w.heap.size+2≤b∧(Value.slice ra L.length rc).ownBlock≠some b) (fun b lt hb=>⟨by have h1:=HXd.out.lt;have hb2:_≤b:=hb;omega,fun e=>by have h1:=lt_own HOd.out e;have hb2:_≤b:=hb;omega⟩)
       have hE5:=ElsP.app (y:=(nm5,((⟨op4,nn4,s4,p4,pl4,pc4,q4,ql4,qc4,o4,k4,kl4,kc4⟩,x5):HX))) hE4 hXn hbr.size hbr hgrow hob
       have HE6:Hid (ElsP (w.heap.size+2) v' (L++[(nm5,((⟨op4,nn4,s4,p4,pl4,pc4,q4,ql4,qc4,o4,k4,kl4,kc4⟩,x5):HX))]) (Y.setCell ⟨w.heap.size+1,4,none⟩ v')):=Lib.hid (fun y hy=>(hE5 y hy).turn hgs.size (fun b lt hb=>⟨hgs.block b lt (fun e=>by injection e with e;omega),hb⟩))
       have HO6:=Lib.hid (show (Y.setCell ⟨w.heap.size+1,4,none⟩ v').ownsRow (w.heap.size+2) 109 8 v' (L++[(nm5,((⟨op4,nn4,s4,p4,pl4,pc4,q4,ql4,qc4,o4,k4,kl4,kc4⟩,x5):HX))]).length (pcells (L++[(nm5,((⟨op4,nn4,s4,p4,pl4,pc4,q4,ql4,qc4,o4,k4,kl4,kc4⟩,x5):HX))])) by
        rw [pcells_snoc,List.length_append]
        exact World.ownsRow.kept hown' hgs (own_but hown' (by omega)))
       have HP6:=Lib.hid (((hP4.below hbr).grown hgrow (fun k hk=>by have:=hbase k hk;omega)).grown hgs (fun k e=>by cases e;omega))
       have HK6:=Lib.hid ((((HKd.out.trans hK4).trans (.of_below hbr)).grown hgrow (fun k hk=>by have:=hbase k hk;omega)).grown hgs (fun k e=>by cases e;omega))
       have hZ5:Bx Y w.heap.size #[.int .i64 0,.int .i64 0,.string ⟨#[]⟩,.slice none 0 0,.slice none 0 0,.bool false,.slice none 0 0] 35:=(hgrow.block _ (hZ4.below hbr).lt (fun e=>by have:=hbase _ e.symm;omega)).trans (hZ4.below hbr)
       have HZ6:=Lib.hid (hZ5.other (c:=w.heap.size+1) (i:=4) (v:=v') (by omega))
       have HSZ:=Lib.hid (show ∀y∈L++[(nm5,((⟨op4,nn4,s4,p4,pl4,pc4,q4,ql4,qc4,o4,k4,kl4,kc4⟩,x5):HX))],y.1.size≤4096 from fun y hy=>(List.mem_append.1 hy).elim (hAp.out.2 y) (fun hy=>by rw [List.mem_singleton.1 hy];exact hs4))
       generalize Y.setCell ⟨w.heap.size+1,4,none⟩ v'=w6 at*
       clear hq hX4 hP4 hK4 hB4 hZ4 hE4 hO4 hbr hcn hrun hown' hgrow hnil hob hbase hv6 hBy hgs hXn hE5 hZ5 c4 e4 d4 df
       go_wp2_with fail
       go_roundw
       case rel=>exact ⟨L++[(nm5,((⟨op4,nn4,s4,p4,pl4,pc4,q4,ql4,qc4,o4,k4,kl4,kc4⟩,x5):HX))],M',a4,cp4,v',by simp;omega,HA'.out ⟨op4,nn4,s4,p4,pl4,pc4,q4,ql4,qc4,o4,k4,kl4,kc4⟩,HS',Lib.hid ⟨HAP'.out ⟨op4,nn4,s4,p4,pl4,pc4,q4,ql4,qc4,o4,k4,kl4,kc4⟩,HSZ.out⟩,HO6,HE6,HX6,HP6,HK6,HZ6⟩
       case measure=>rw [HP6.out.leftN,hP.out.leftN];exact HL'.out
      ·refine call_pan 18 (f:=234) (args:=#[.pointer (some ⟨p,0,none⟩),.slice ra L.length rc]) (w':=wd) rfl rfl rfl (by go_simp) ((pair_any join wd p _ _ M E o L ra L.length rc HPd.out rfl h32 HLd.out arm).mono ?_)
       rintro e Z hq
       rw [HPT.out] at hq
       obtain ⟨v,a4,cp4,rfl,⟨⟨op4,nn4,s4,p4,pl4,pc4,q4,ql4,qc4,o4,k4,kl4,kc4⟩,hv4,hX4,hs4⟩,hP4,hK4⟩:=hq.yes
       unfold Hd.pair at hv4
       dsimp only at hv4 hX4 hs4
       subst hv4
       refine .inl ⟨_,rfl,trivial,?_⟩
       have hB4:=HXd.out.keep hK4 (by omega)
       have hZ4:=HZd.out.keep hK4 (by omega)
       have hE4:=HEd.out.keep hK4 (by omega)
       have hO4:=owns_keep HOd.out hK4 (by omega)
       have c4:=hB4.cell 4 rfl
       have e4:=past c4
       simp only [List.setIfInBounds_toArray,List.set_cons_succ,List.set_cons_zero]
       refine wpAnyH_all (rs:=[1,6]) (by kernel_rfl) (by simp) ?_
       intro i hi
       have hi2:i=1∨i=6:=by simpa using hi
       rcases hi2 with rfl|rfl
       ·refine value_at 14 (v:= .slice ra L.length rc) (w':=Z) rfl rfl rfl (by go_simp) ⟨trivial,?_⟩
        simp only [List.setIfInBounds_toArray,List.set_cons_succ,List.set_cons_zero]
        refine wpAnyH_all (rs:=[6]) (by kernel_rfl) (by simp) ?_
        intro i hi
        obtain rfl:i=6:=by simpa using hi
        refine value_at 19 (v:= .slice (some ⟨Z.heap.size,0,none⟩) 1 1) (w':=Z.alloc (.cells #[.string nm5,.int .i64 op4,.int .i64 nn4,.string s4,.slice p4 pl4 pc4,.slice q4 ql4 qc4,.bool o4,.slice k4 kl4 kc4] 109)) rfl rfl rfl (by go_simp) ⟨trivial,?_⟩
        simp only [List.setIfInBounds_toArray,List.set_cons_succ,List.set_cons_zero]
        refine wpAnyH_all (rs:=[7]) (by kernel_rfl) (by simp) ?_
        intro i hi
        obtain rfl:i=7:=by simpa using hi
        have hbr:=bl_alloc (o:= .cells #[.string nm5,.int .i64 op4,.int .i64 nn4,.string s4,.slice p4 pl4 pc4,.slice q4 ql4 qc4,.bool o4,.slice k4 kl4 kc4] 109) (Below.refl Z.heap.size Z)
        have hcn:∀r u,[Value.string nm5,.int .i64 op4,.int .i64 nn4,.string s4,.slice p4 pl4 pc4,.slice q4 ql4 qc4,.bool o4,.slice k4 kl4 kc4][r]?=some u→(Z.alloc (.cells #[.string nm5,.int .i64 op4,.int .i64 nn4,.string s4,.slice p4 pl4 pc4,.slice q4 ql4 qc4,.bool o4,.slice k4 kl4 kc4] 109)).cell? ((⟨Z.heap.size,0,none⟩:Addr).add r)=some u:=World.news_of_block (Lx.heap_new Z _)
        obtain ⟨v',Y,hrun,hown',hgrow,hnil,hob⟩:=run_append_own_at (P:=Tryz.prog) (Z.alloc (.cells #[.string nm5,.int .i64 op4,.int .i64 nn4,.string s4,.slice p4 pl4 pc4,.slice q4 ql4 qc4,.bool o4,.slice k4 kl4 kc4] 109)) (w.heap.size+2) 32 32 109 i0 _ 8 128 Tryz.underlying32 HI.out HI0.out HI1.out HI2.out rfl (by decide) (.slice ra L.length rc) L.length (pcells L) (hO4.alloc _) ⟨Z.heap.size,0,none⟩ 1 1 [Value.string nm5,.int .i64 op4,.int .i64 nn4,.string s4,.slice p4 pl4 pc4,.slice q4 ql4 qc4,.bool o4,.slice k4 kl4 kc4] rfl hcn (fun x hx=>by simp at hx;rcases hx with rfl|rfl|rfl|rfl|rfl|rfl|rfl|rfl<;>rfl) (by unfold maxLen;omega) (by omega) (by have h1:=HZd.out.lt;have h2:=hK4.size;have h3:=HXd.out.lt;simp;omega)
        refine value_at 20 (v:=v') (w':=Y) rfl rfl rfl (append_run rfl rfl rfl hrun) ⟨trivial,?_⟩
        have hbase:=own_base hO4
        obtain ⟨ra6,rc6,hv6⟩:=own_sliceP hown'
        have hBy:Bx Y (w.heap.size+1) #[.int .i64 10,.int .i64 0,.string ⟨#[]⟩,.slice none 0 0,.slice ra L.length rc,.bool false,.slice none 0 0] 35:=(hgrow.block _ (hB4.below hbr).lt (fun e=>by have:=hbase _ e.symm;omega)).trans (hB4.below hbr)
        have d4:=hBy.cell 4 rfl
        have df:=hBy.fz
        simp only [List.setIfInBounds_toArray,List.set_cons_succ,List.set_cons_zero]
        refine wpAnyH_all (rs:=[8]) (by kernel_rfl) (by simp) ?_
        intro i hi
        obtain rfl:i=8:=by simpa using hi
        refine value_at 21 (v:= .pointer (some ⟨w.heap.size+1,4,none⟩)) (w':=Y) rfl rfl rfl (by go_simp) ⟨trivial,?_⟩
        simp only [List.setIfInBounds_toArray,List.set_cons_succ,List.set_cons_zero]
        refine wpAnyH_all (rs:=[9]) (by kernel_rfl) (by simp) ?_
        intro i hi
        obtain rfl:i=9:=by simpa using hi
        refine skip_at (w':=Y.setCell ⟨w.heap.size+1,4,none⟩ v') rfl rfl rfl (by subst hv6;go_simp) ⟨trivial,?_⟩
        refine wpAnyH_done (by kernel_rfl) ?_ _
        have hgs:Y.grownBy (Y.setCell ⟨w.heap.size+1,4,none⟩ v') (some (w.heap.size+1)):=⟨rfl,rfl,rfl,by simp [World.setCell],fun k hk hne=>Below.heap_setCell Y ⟨w.heap.size+1,4,none⟩ _ k (fun e=>hne (by rw [e]))⟩
        have HX6:Hid (Bx (Y.setCell ⟨w.heap.size+1,4,none⟩ v') (w.heap.size+1) #[.int .i64 10,.int .i64 0,.string ⟨#[]⟩,.slice none 0 0,v',.bool false,.slice none 0 0] 35):=Lib.hid (by have:=hBy.set (i:=4) (v:=v');simp only [List.setIfInBounds_toArray,List.set_cons_succ,List.set_cons_zero] at this;exact this)
        have hXn:=hX4.less (Q:=fun b=>w.heap.size+2≤b∧(Value.slice ra L.length rc).ownBlock≠some b) (fun b lt hb=>⟨by have h1:=HXd.out.lt;have hb2:_≤b:=hb;omega,fun e=>by have h1:=lt_own HOd.out e;have hb2:_≤b:=hb;omega⟩)
        have hE5:=ElsP.app (y:=(nm5,((⟨op4,nn4,s4,p4,pl4,pc4,q4,ql4,qc4,o4,k4,kl4,kc4⟩,x5):HX))) hE4 hXn hbr.size hbr hgrow hob
        have HE6:Hid (ElsP (w.heap.size+2) v' (L++[(nm5,((⟨op4,nn4,s4,p4,pl4,pc4,q4,ql4,qc4,o4,k4,kl4,kc4⟩,x5):HX))]) (Y.setCell ⟨w.heap.size+1,4,none⟩ v')):=Lib.hid (fun y hy=>(hE5 y hy).turn hgs.size (fun b lt hb=>⟨hgs.block b lt (fun e=>by injection e with e;omega),hb⟩))
        have HO6:=Lib.hid (show (Y.setCell ⟨w.heap.size+1,4,none⟩ v').ownsRow (w.heap.size+2) 109 8 v' (L++[(nm5,((⟨op4,nn4,s4,p4,pl4,pc4,q4,ql4,qc4,o4,k4,kl4,kc4⟩,x5):HX))]).length (pcells (L++[(nm5,((⟨op4,nn4,s4,p4,pl4,pc4,q4,ql4,qc4,o4,k4,kl4,kc4⟩,x5):HX))])) by
         rw [pcells_snoc,List.length_append]
         exact World.ownsRow.kept hown' hgs (own_but hown' (by omega)))
        have HP6:=Lib.hid (((hP4.below hbr).grown hgrow (fun k hk=>by have:=hbase k hk;omega)).grown hgs (fun k e=>by cases e;omega))
        have HK6:=Lib.hid ((((HKd.out.trans hK4).trans (.of_below hbr)).grown hgrow (fun k hk=>by have:=hbase k hk;omega)).grown hgs (fun k e=>by cases e;omega))
        have hZ5:Bx Y w.heap.size #[.int .i64 0,.int .i64 0,.string ⟨#[]⟩,.slice none 0 0,.slice none 0 0,.bool false,.slice none 0 0] 35:=(hgrow.block _ (hZ4.below hbr).lt (fun e=>by have:=hbase _ e.symm;omega)).trans (hZ4.below hbr)
        have HZ6:=Lib.hid (hZ5.other (c:=w.heap.size+1) (i:=4) (v:=v') (by omega))
        have HSZ:=Lib.hid (show ∀y∈L++[(nm5,((⟨op4,nn4,s4,p4,pl4,pc4,q4,ql4,qc4,o4,k4,kl4,kc4⟩,x5):HX))],y.1.size≤4096 from fun y hy=>(List.mem_append.1 hy).elim (hAp.out.2 y) (fun hy=>by rw [List.mem_singleton.1 hy];exact hs4))
        generalize Y.setCell ⟨w.heap.size+1,4,none⟩ v'=w6 at*
        clear hq hX4 hP4 hK4 hB4 hZ4 hE4 hO4 hbr hcn hrun hown' hgrow hnil hob hbase hv6 hBy hgs hXn hE5 hZ5 c4 e4 d4 df
        go_wp2_with fail
        go_roundw
        case rel=>exact ⟨L++[(nm5,((⟨op4,nn4,s4,p4,pl4,pc4,q4,ql4,qc4,o4,k4,kl4,kc4⟩,x5):HX))],M',a4,cp4,v',by simp;omega,HA'.out ⟨op4,nn4,s4,p4,pl4,pc4,q4,ql4,qc4,o4,k4,kl4,kc4⟩,HS',Lib.hid ⟨HAP'.out ⟨op4,nn4,s4,p4,pl4,pc4,q4,ql4,qc4,o4,k4,kl4,kc4⟩,HSZ.out⟩,HO6,HE6,HX6,HP6,HK6,HZ6⟩
        case measure=>rw [HP6.out.leftN,hP.out.leftN];exact HL'.out
       ·refine value_at 19 (v:= .slice (some ⟨Z.heap.size,0,none⟩) 1 1) (w':=Z.alloc (.cells #[.string nm5,.int .i64 op4,.int .i64 nn4,.string s4,.slice p4 pl4 pc4,.slice q4 ql4 qc4,.bool o4,.slice k4 kl4 kc4] 109)) rfl rfl rfl (by go_simp) ⟨trivial,?_⟩
        simp only [List.setIfInBounds_toArray,List.set_cons_succ,List.set_cons_zero]
        refine wpAnyH_all (rs:=[1]) (by kernel_rfl) (by simp) ?_
        intro i hi
        obtain rfl:i=1:=by simpa using hi
        refine value_at 14 (v:= .slice ra L.length rc) (w':=Z.alloc (.cells #[.string nm5,.int .i64 op4,.int .i64 nn4,.string s4,.slice p4 pl4 pc4,.slice q4 ql4 qc4,.bool o4,.slice k4 kl4 kc4] 109)) rfl rfl rfl (by go_simp) ⟨trivial,?_⟩
        simp only [List.setIfInBounds_toArray,List.set_cons_succ,List.set_cons_zero]
        refine wpAnyH_all (rs:=[7]) (by kernel_rfl) (by simp) ?_
        intro i hi
        obtain rfl:i=7:=by simpa using hi
        have hbr:=bl_alloc (o:= .cells #[.string nm5,.int .i64 op4,.int .i64 nn4,.string s4,.slice p4 pl4 pc4,.slice q4 ql4 qc4,.bool o4,.slice k4 kl4 kc4] 109) (Below.refl Z.heap.size Z)
        have hcn:∀r u,[Value.string nm5,.int .i64 op4,.int .i64 nn4,.string s4,.slice p4 pl4 pc4,.slice q4 ql4 qc4,.bool o4,.slice k4 kl4 kc4][r]?=some u→(Z.alloc (.cells #[.string nm5,.int .i64 op4,.int .i64 nn4,.string s4,.slice p4 pl4 pc4,.slice q4 ql4 qc4,.bool o4,.slice k4 kl4 kc4] 109)).cell? ((⟨Z.heap.size,0,none⟩:Addr).add r)=some u:=World.news_of_block (Lx.heap_new Z _)
        obtain ⟨v',Y,hrun,hown',hgrow,hnil,hob⟩:=run_append_own_at (P:=Tryz.prog) (Z.alloc (.cells #[.string nm5,.int .i64 op4,.int .i64 nn4,.string s4,.slice p4 pl4 pc4,.slice q4 ql4 qc4,.bool o4,.slice k4 kl4 kc4] 109)) (w.heap.size+2) 32 32 109 i0 _ 8 128 Tryz.underlying32 HI.out HI0.out HI1.out HI2.out rfl (by decide) (.slice ra L.length rc) L.length (pcells L) (hO4.alloc _) ⟨Z.heap.size,0,none⟩ 1 1 [Value.string nm5,.int .i64 op4,.int .i64 nn4,.string s4,.slice p4 pl4 pc4,.slice q4 ql4 qc4,.bool o4,.slice k4 kl4 kc4] rfl hcn (fun x hx=>by simp at hx;rcases hx with rfl|rfl|rfl|rfl|rfl|rfl|rfl|rfl<;>rfl) (by unfold maxLen;omega) (by omega) (by have h1:=HZd.out.lt;have h2:=hK4.size;have h3:=HXd.out.lt;simp;omega)
        refine value_at 20 (v:=v') (w':=Y) rfl rfl rfl (append_run rfl rfl rfl hrun) ⟨trivial,?_⟩
        have hbase:=own_base hO4
        obtain ⟨ra6,rc6,hv6⟩:=own_sliceP hown'
        have hBy:Bx Y (w.heap.size+1) #[.int .i64 10,.int .i64 0,.string ⟨#[]⟩,.slice none 0 0,.slice ra L.length rc,.bool false,.slice none 0 0] 35:=(hgrow.block _ (hB4.below hbr).lt (fun e=>by have:=hbase _ e.symm;omega)).trans (hB4.below hbr)
        have d4:=hBy.cell 4 rfl
        have df:=hBy.fz
        simp only [List.setIfInBounds_toArray,List.set_cons_succ,List.set_cons_zero]
        refine wpAnyH_all (rs:=[8]) (by kernel_rfl) (by simp) ?_
        intro i hi
        obtain rfl:i=8:=by simpa using hi
        refine value_at 21 (v:= .pointer (some ⟨w.heap.size+1,4,none⟩)) (w':=Y) rfl rfl rfl (by go_simp) ⟨trivial,?_⟩
        simp only [List.setIfInBounds_toArray,List.set_cons_succ,List.set_cons_zero]
        refine wpAnyH_all (rs:=[9]) (by kernel_rfl) (by simp) ?_
        intro i hi
        obtain rfl:i=9:=by simpa using hi
        refine skip_at (w':=Y.setCell ⟨w.heap.size+1,4,none⟩ v') rfl rfl rfl (by subst hv6;go_simp) ⟨trivial,?_⟩
        refine wpAnyH_done (by kernel_rfl) ?_ _
        have hgs:Y.grownBy (Y.setCell ⟨w.heap.size+1,4,none⟩ v') (some (w.heap.size+1)):=⟨rfl,rfl,rfl,by simp [World.setCell],fun k hk hne=>Below.heap_setCell Y ⟨w.heap.size+1,4,none⟩ _ k (fun e=>hne (by rw [e]))⟩
        have HX6:Hid (Bx (Y.setCell ⟨w.heap.size+1,4,none⟩ v') (w.heap.size+1) #[.int .i64 10,.int .i64 0,.string ⟨#[]⟩,.slice none 0 0,v',.bool false,.slice none 0 0] 35):=Lib.hid (by have:=hBy.set (i:=4) (v:=v');simp only [List.setIfInBounds_toArray,List.set_cons_succ,List.set_cons_zero] at this;exact this)
        have hXn:=hX4.less (Q:=fun b=>w.heap.size+2≤b∧(Value.slice ra L.length rc).ownBlock≠some b) (fun b lt hb=>⟨by have h1:=HXd.out.lt;have hb2:_≤b:=hb;omega,fun e=>by have h1:=lt_own HOd.out e;have hb2:_≤b:=hb;omega⟩)
        have hE5:=ElsP.app (y:=(nm5,((⟨op4,nn4,s4,p4,pl4,pc4,q4,ql4,qc4,o4,k4,kl4,kc4⟩,x5):HX))) hE4 hXn hbr.size hbr hgrow hob
        have HE6:Hid (ElsP (w.heap.size+2) v' (L++[(nm5,((⟨op4,nn4,s4,p4,pl4,pc4,q4,ql4,qc4,o4,k4,kl4,kc4⟩,x5):HX))]) (Y.setCell ⟨w.heap.size+1,4,none⟩ v')):=Lib.hid (fun y hy=>(hE5 y hy).turn hgs.size (fun b lt hb=>⟨hgs.block b lt (fun e=>by injection e with e;omega),hb⟩))
        have HO6:=Lib.hid (show (Y.setCell ⟨w.heap.size+1,4,none⟩ v').ownsRow (w.heap.size+2) 109 8 v' (L++[(nm5,((⟨op4,nn4,s4,p4,pl4,pc4,q4,ql4,qc4,o4,k4,kl4,kc4⟩,x5):HX))]).length (pcells (L++[(nm5,((⟨op4,nn4,s4,p4,pl4,pc4,q4,ql4,qc4,o4,k4,kl4,kc4⟩,x5):HX))])) by
         rw [pcells_snoc,List.length_append]
         exact World.ownsRow.kept hown' hgs (own_but hown' (by omega)))
        have HP6:=Lib.hid (((hP4.below hbr).grown hgrow (fun k hk=>by have:=hbase k hk;omega)).grown hgs (fun k e=>by cases e;omega))
        have HK6:=Lib.hid ((((HKd.out.trans hK4).trans (.of_below hbr)).grown hgrow (fun k hk=>by have:=hbase k hk;omega)).grown hgs (fun k e=>by cases e;omega))
        have hZ5:Bx Y w.heap.size #[.int .i64 0,.int .i64 0,.string ⟨#[]⟩,.slice none 0 0,.slice none 0 0,.bool false,.slice none 0 0] 35:=(hgrow.block _ (hZ4.below hbr).lt (fun e=>by have:=hbase _ e.symm;omega)).trans (hZ4.below hbr)
        have HZ6:=Lib.hid (hZ5.other (c:=w.heap.size+1) (i:=4) (v:=v') (by omega))
        have HSZ:=Lib.hid (show ∀y∈L++[(nm5,((⟨op4,nn4,s4,p4,pl4,pc4,q4,ql4,qc4,o4,k4,kl4,kc4⟩,x5):HX))],y.1.size≤4096 from fun y hy=>(List.mem_append.1 hy).elim (hAp.out.2 y) (fun hy=>by rw [List.mem_singleton.1 hy];exact hs4))
        generalize Y.setCell ⟨w.heap.size+1,4,none⟩ v'=w6 at*
        clear hq hX4 hP4 hK4 hB4 hZ4 hE4 hO4 hbr hcn hrun hown' hgrow hnil hob hbase hv6 hBy hgs hXn hE5 hZ5 c4 e4 d4 df
        go_wp2_with fail
        go_roundw
        case rel=>exact ⟨L++[(nm5,((⟨op4,nn4,s4,p4,pl4,pc4,q4,ql4,qc4,o4,k4,kl4,kc4⟩,x5):HX))],M',a4,cp4,v',by simp;omega,HA'.out ⟨op4,nn4,s4,p4,pl4,pc4,q4,ql4,qc4,o4,k4,kl4,kc4⟩,HS',Lib.hid ⟨HAP'.out ⟨op4,nn4,s4,p4,pl4,pc4,q4,ql4,qc4,o4,k4,kl4,kc4⟩,HSZ.out⟩,HO6,HE6,HX6,HP6,HK6,HZ6⟩
        case measure=>rw [HP6.out.leftN,hP.out.leftN];exact HL'.out
end Go.Proofs.YtkfihhagcimcmaaGreatDoor.Ps
