/- Qzp, Qza -/
import Derived.Test.YtkfihhagcimcmaaGreatDoorYbf
import Derived.Test.YtkfihhagcimcmaaGreatDoorChecked
import Derived.Test.YtkfihhagcimcmaaGreatDoorProg
import Derived.Test.YtkfihhagcimcmaaGreatDoorY1
import Derived.Test.YtkfihhagcimcmaaGreatDoorYbn
namespace Go.Proofs.YtkfihhagcimcmaaGreatDoor.Ps
open Go.RowKit
open Lx (Tok bs)
def preD (E:Int) (acc:List De) (M:List Tok):Res Unit:=
 if acc.length=256 then .bad (pk E M).at_ 4 else
  if nameB (if resB M=true then M.tail else M)=true then must E [58] (if resB M=true then M.tail else M).tail else .bad (pk E (if resB M=true then M.tail else M)).at_ 21
theorem declM_eq (E:Int) {acc:List De} {M:List Tok} (h:¬acc.length=256):
  declM E M=((preD E acc M).bind fun _ L2=>wholeM E L2).bind fun x L3=>(must E [59] L3).bind fun _ L4=> .ok ⟨resB M,bs (pk E (if resB M=true then M.tail else M)).x.t,x⟩ L4:=by
 unfold preD
 rw [if_neg h]
 have key:∀(r:Bool) (L:List Tok),decl1 E r L=((if nameB L=true then must E [58] L.tail else Res.bad (pk E L).at_ 21).bind fun _ L2=>wholeM E L2).bind fun x L3=>(must E [59] L3).bind fun _ L4=> .ok ⟨r,bs (pk E L).x.t,x⟩ L4:=fun r L=>by
  unfold decl1
  split
  ·cases must E [58] L.tail<;>rfl
  ·rfl
 unfold declM
 cases hr:resB M with
 |true=>simp only [if_true];exact key true M.tail
 |false=>simp only [Bool.false_eq_true,if_false];exact key false M
theorem resB_cons {M:List Tok} (h:resB M=true):∃t N,M=t::N:=by
 cases M with
 |nil=>cases h
 |cons t N=>exact ⟨t,N,rfl⟩
theorem preD_state {s S:St} {M:List Tok} (h:Sv s S M) (b1:Bool) (acc:List De) (h1:acc.length=256↔b1=true):
  Stt s ((if resB M=true then (if b1=true then S.fail S.pk 4 else S).next else (if b1=true then S.fail S.pk 4 else S)).named.1.must [58]) (preD s.E acc M):=by
 unfold preD
 cases b1 with
 |true=>
  have hd:=h.fail S.pk 4 (by decide)
  rw [h.pk] at hd⊢
  rw [if_pos (h1.2 rfl)]
  simp only [if_true]
  have e:(if resB M=true then (S.fail (pk s.E M) 4).next else S.fail (pk s.E M) 4)=S.fail (pk s.E M) 4:=by split;exact hd.next;rfl
  rw [e,hd.named,hd.must]
  exact hd
 |false=>
  have h3:¬acc.length=256:=fun e=>by have:=h1.1 e;cases this
  rw [if_neg h3]
  simp only [Bool.false_eq_true,if_false]
  have key:∀{T:St} {N:List Tok},Sv s T N→Stt s (T.named.1.must [58]) (if nameB N=true then must s.E [58] N.tail else .bad (pk s.E N).at_ 21):=fun {T N} hT=>by
   have h5:=(Stt.named (r:=Res.ok () N) hT).must [58]
   by_cases hn:nameB N=true
   ·rw [if_pos hn];simp only [Res.bind,hn,if_true] at h5;exact h5
   ·rw [if_neg hn];simp only [Res.bind,hn] at h5;exact h5
  cases hr:resB M with
  |true=>
   obtain ⟨t,N,rfl⟩:=resB_cons hr
   simp only [if_true]
   exact key (h.next rfl)
  |false=>
   simp only [Bool.false_eq_true,if_false]
   exact key h
theorem decl_rel {s S8 T:St} {M:List Tok} {acc:List De} {R:Res (List De)} {r7:Res Ex} {wd:ByteArray} (hok:OkL s.T) (hM:¬M.length=0) (h256:acc.length≤256) (hF:FileAt s.E R acc M) (hT:Sv s T (if resB M=true then M.tail else M)∨acc.length=256) (hwd:T.named.2=wd)
  (h7:r7=(preD s.E acc M).bind fun _ M2=>wholeM s.E M2) (h8:Stt s S8 (r7.bind fun _ L3=>must s.E [59] L3)):
  (∃x K M',Sv s S8 M'∧M'.length<M.length∧FileAt s.E R (acc++[⟨resB M,wd,x⟩]) M'∧acc.length+1≤256∧wd.size≤4096∧r7= .ok x K∧r7.val exO=x)∨∃a x,Dd s S8 a x∧R= .bad a x:=by
 by_cases hf:acc.length=256
 ·have e:r7= .bad (pk s.E M).at_ 4:=by rw [h7];unfold preD;rw [if_pos hf];rfl
  rw [e] at h8
  exact .inr ⟨_,_,h8,hF.full hM hf⟩
 ·have hT2:Sv s T (if resB M=true then M.tail else M):=hT.resolve_right hf
  have hd:=declM_eq s.E (acc:=acc) (M:=M) hf
  rw [←h7] at hd
  cases hr:r7 with
  |bad a x=>
   rw [hr] at hd h8
   exact .inr ⟨a,x,h8,hF.bad hM hf hd⟩
  |ok x K=>
   rw [hr] at hd h8
   have hd2:declM s.E M=(must s.E [59] K).bind fun _ L4=> .ok ⟨resB M,bs (pk s.E (if resB M=true then M.tail else M)).x.t,x⟩ L4:=hd
   have h9:Stt s S8 (must s.E [59] K):=h8
   cases hm:must s.E [59] K with
   |bad a y=>
    rw [hm] at hd2 h9
    exact .inr ⟨a,y,h9,hF.bad hM hf hd2⟩
   |ok u N=>
    rw [hm] at hd2 h9
    have hn:nameB (if resB M=true then M.tail else M)=true:=by
     cases hc:nameB (if resB M=true then M.tail else M) with
     |true=>rfl
     |false=>
      have:r7= .bad (pk s.E (if resB M=true then M.tail else M)).at_ 21:=by rw [h7];unfold preD;rw [if_neg hf,hc,if_neg (by decide)];rfl
      rw [hr] at this;cases this
    obtain ⟨-,hw⟩:=hT2.named_ok hn
    rw [hwd] at hw
    rw [←hw] at hd2
    obtain ⟨h10,-,hlt⟩:=hF.step hM hf hd2
    have hz:wd.size≤4096:=by
     rw [hw,bs_size]
     refine (pk_ok (L:=if resB M=true then M.tail else M) (fun t ht=>hok t ?_) s.E).1
     have h2:=hT2.L
     rw [←h2] at ht
     have h3:=List.mem_of_mem_drop ht
     rw [hT2.kin.T] at h3
     exact h3
    exact .inl ⟨x,K,N,h9,hlt,h10,by omega,hz,rfl,rfl⟩
end Go.Proofs.YtkfihhagcimcmaaGreatDoor.Ps
namespace Go.Proofs.YtkfihhagcimcmaaGreatDoor.Ps
open Go.RowKit
open Lx (bl_alloc)
structure DF (B:Nat) (l:BL) (w:World) (v:Value) (L:List DX):Prop where
 own:w.ownsRow B 55 9 v L.length (dcells L)
 far:∀b∈l.map Prod.fst,v.ownBlock≠some b
 els:∀y∈L,KE B l v w y.1 y.2.x
section
variable {B:Nat} {l:BL} {w w':World} {v:Value} {L:List DX} {h:Hd} {x:Ex}
theorem DF.nil:DF B l w (.slice none 0 0) []:=⟨World.ownsRow_nil _ _ _ _,(fun b _ e=>by cases e),fun y hy=>absurd hy (by simp)⟩
theorem KE.of9 {w0:World} (hx:XB (fun b=>w.heap.size≤b) w' h x) (hF:Fr w0 w l) (hB:B≤w.heap.size) (hK:DF B l w v L):KE B l v w' h x:=
 XB.less hx fun b _ hb=>⟨⟨Nat.le_trans hB hb,hF.fresh hb⟩,fun e=>by have:=own_lt hK.own e;omega⟩
theorem DF.call (h:DF B l w v L) (hb:Below w.heap.size w w'):DF B l w' v L:=
 ⟨h.own.kept (grown_below hb) (by cases v.ownBlock<;>simp),h.far,fun y hy=>(h.els y hy).call hb⟩
theorem DF.new_ (h:DF B l w v L) (cs:Array Value) (t:TypeId) {n:Nat} (hn:w.heap.size=n):DF B ((n,cs,t)::l) (w.alloc (.cells cs t)) v L:=by
 subst hn
 exact ⟨h.own.alloc _,fun b hb e=>by
  rw [List.map_cons] at hb
  rcases List.mem_cons.1 hb with rfl|hb
  ·have:=own_lt h.own e;simp only at this;omega
  ·exact h.far b hb e,fun y hy=>(h.els y hy).new_ cs t rfl⟩
theorem DF.put (h:DF B l w v L) {i b:Nat} {cs cs':Array Value} {t:TypeId} (hi:l[i]?=some (b,cs,t)) (g:w.grownBy w' (some b)):DF B (l.set i (b,cs',t)) w' v L:=
 ⟨owns_grown h.own g (h.far b (List.mem_map.2 ⟨_,List.mem_of_getElem? hi,rfl⟩)),by rw [set_fst hi];exact h.far,fun y hy=>(h.els y hy).put hi g⟩
theorem DF.put6 (h:DF B l w v L) (i:Nat) {b:Nat} {t:TypeId} {u0 u1 u2 u3 u4 u5:Value} (hi:l[i]?=some (b,#[u0,u1,u2,u3,u4,u5],t)) (v0 v1 v2 v3 v4 v5:Value):DF B (l.set i (b,#[v0,v1,v2,v3,v4,v5],t)) (Ps.put6 w b v0 v1 v2 v3 v4 v5) v L:=h.put hi (put6_grown w b v0 v1 v2 v3 v4 v5)
theorem DF.put7 (h:DF B l w v L) (i:Nat) {b:Nat} {t:TypeId} {u0 u1 u2 u3 u4 u5 u6:Value} (hi:l[i]?=some (b,#[u0,u1,u2,u3,u4,u5,u6],t)) (v0 v1 v2 v3 v4 v5 v6:Value):DF B (l.set i (b,#[v0,v1,v2,v3,v4,v5,v6],t)) (Ps.put7 w b v0 v1 v2 v3 v4 v5 v6) v L:=h.put hi (put7_grown w b v0 v1 v2 v3 v4 v5 v6)
theorem DF.tail {y:Nat×Array Value×TypeId} (h:DF B (y::l) w v L):DF B l w v L:=
 ⟨h.own,fun b hb=>h.far b (by rw [List.map_cons];exact List.mem_cons_of_mem _ hb),fun y hy=>(h.els y hy).tail⟩
theorem DF.app {cs:Array Value} {v':Value} {r:Bool} {nm:ByteArray} (hK:DF B l w v L) (hx:KE B l v w h x) (hw:w'=w.alloc (.cells cs 55)) {w2:World} (hg:w'.grownBy w2 v.ownBlock) (hown:w2.ownsRow B 55 9 v' (L.length+1) (dcells L++(.string nm:: .bool r::h.vals.toList))) (hob:v'.ownBlock=v.ownBlock∨v'.ownBlock=some (w.heap.size+1)) (hfr:w.heap.size+1∉l.map Prod.fst):DF B l w2 v' (L++[(h,⟨r,nm,x⟩)]):=by
 have hb:=bl_alloc (o:= .cells cs 55) (Below.refl w.heap.size w)
 rw [←hw] at hb
 have hz:w'.heap.size=w.heap.size+1:=by rw [hw];simp
 refine ⟨by rw [dcells_snoc,List.length_append];exact hown,fun b hm e=>?_,fun y hy=>?_⟩
 ·rcases hob with h1|h1
  ·rw [h1] at e;exact hK.far b hm e
  ·rw [h1] at e;injection e with e;subst e;exact hfr hm
 ·have key:∀z:DX,KE B l v w z.1 z.2.x→KE B l v' w2 z.1 z.2.x:=fun z hz2=>XB.turn hz2 (Nat.le_trans hb.size hg.size) fun b lt hc=>⟨(hg.block b (by omega) (fun e=>hc.2 e.symm)).trans (hb.block b lt),hc.1,fun e=>by
   rcases hob with h1|h1
   ·rw [h1] at e;exact hc.2 e
   ·rw [h1] at e;injection e with e;omega⟩
  rcases List.mem_append.1 hy with h1|h1
  ·exact key y (hK.els y h1)
  ·rw [List.mem_singleton.1 h1];exact key (h,⟨r,nm,x⟩) hx
theorem Fr.rowD {w0:World} (h:Fr w0 w l) (hK:DF w0.heap.size l w v L) {o:Obj} (g:(w.alloc o).grownBy w' v.ownBlock):Fr w0 w' l:=
 (h.old o).away g fun k e=>⟨own_base hK.own k e,fun hm=>hK.far k hm e⟩
theorem DF.vl {l0:List De} (h:DF B l w v L) (hm:L.map (·.2)=l0) (h256:L.length≤256) (hz:∀y∈L,y.2.nm.size≤4096):VL B w l0 v:=
 ⟨L,hm,h256,h.own,fun y hy=>XB.less (h.els y hy) fun _ _ hb=>⟨hb.1.1,hb.2⟩,hz⟩
end
def put72 (w:World) (b:Nat) (v0 v1 v2 v3 v4 v5 v6:Value):World:=((((((w.setCell ⟨b,2,none⟩ v0).setCell ⟨b,3,none⟩ v1).setCell ⟨b,4,none⟩ v2).setCell ⟨b,5,none⟩ v3).setCell ⟨b,6,none⟩ v4).setCell ⟨b,7,none⟩ v5).setCell ⟨b,8,none⟩ v6
theorem put72_grown (w:World) (b:Nat) (v0 v1 v2 v3 v4 v5 v6:Value):w.grownBy (put72 w b v0 v1 v2 v3 v4 v5 v6) (some b):=by
 unfold put72
 have g:∀(w:World) (i:Nat) (v:Value),w.grownBy (w.setCell ⟨b,i,none⟩ v) (some b):=fun w i v=>setCell_grown w b i v
 exact ((((((g _ 2 v0).trans (g _ 3 v1)).trans (g _ 4 v2)).trans (g _ 5 v3)).trans (g _ 6 v4)).trans (g _ 7 v5)).trans (g _ 8 v6)
theorem put72_size (w:World) (b:Nat) (v0 v1 v2 v3 v4 v5 v6:Value):(put72 w b v0 v1 v2 v3 v4 v5 v6).heap.size=w.heap.size:=by simp [put72,World.setCell]
theorem put72_bx {w:World} {b:Nat} {t:TypeId} {u0 u1 u2 u3 u4 u5 u6 u7 u8 v0 v1 v2 v3 v4 v5 v6:Value} (h:Bx w b #[u0,u1,u2,u3,u4,u5,u6,u7,u8] t):Bx (put72 w b v0 v1 v2 v3 v4 v5 v6) b #[u0,u1,v0,v1,v2,v3,v4,v5,v6] t:=by
 have:=(((((((h.set (i:=2) (v:=v0)).set (i:=3) (v:=v1)).set (i:=4) (v:=v2)).set (i:=5) (v:=v3)).set (i:=6) (v:=v4)).set (i:=7) (v:=v5)).set (i:=8) (v:=v6))
 simp only [List.setIfInBounds_toArray,List.set_cons_succ,List.set_cons_zero] at this
 exact this
theorem Fr.put72 {w0 w:World} {l:BL} (h:Fr w0 w l) (i:Nat) {b:Nat} {t:TypeId} {u0 u1 u2 u3 u4 u5 u6 u7 u8:Value} (hi:l[i]?=some (b,#[u0,u1,u2,u3,u4,u5,u6,u7,u8],t)) (v0 v1 v2 v3 v4 v5 v6:Value):Fr w0 (Ps.put72 w b v0 v1 v2 v3 v4 v5 v6) (l.set i (b,#[u0,u1,v0,v1,v2,v3,v4,v5,v6],t)):=
 h.grown i hi (put72_grown w b v0 v1 v2 v3 v4 v5 v6) (put72_bx (h.at_ _ (List.mem_of_getElem? hi)).1)
end Go.Proofs.YtkfihhagcimcmaaGreatDoor.Ps
