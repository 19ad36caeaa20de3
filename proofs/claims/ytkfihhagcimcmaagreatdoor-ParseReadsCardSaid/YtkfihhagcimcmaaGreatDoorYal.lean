/- Ua, Ub -/
import Derived.Test.YtkfihhagcimcmaaGreatDoorChecked
import Derived.Test.YtkfihhagcimcmaaGreatDoorY1
import Derived.Test.YtkfihhagcimcmaaGreatDoorYah
import Derived.Test.YtkfihhagcimcmaaGreatDoorYaj
namespace Go.Proofs.YtkfihhagcimcmaaGreatDoor
open Go.RowKit
theorem flat_get {α:Type} {s:Nat}:∀(L:List (List α)) (i r:Nat) (_:∀x∈L,x.length=s) (_:r<s) (hi:i<L.length),L.flatten[i*s+r]?=L[i][r]?
 |x::L,0,r,hs,hr,_=>by
  have:x.length=s:=hs x (by simp)
  rw [Nat.zero_mul,Nat.zero_add,List.flatten_cons,List.getElem?_append_left (by omega)]
  rfl
 |x::L,i+1,r,hs,hr,hi=>by
  have hx:x.length=s:=hs x (by simp)
  rw [List.flatten_cons,List.getElem?_append_right (by rw [hx,Nat.add_mul];omega)]
  have e:(i+1)*s+r-x.length=i*s+r:=by rw [hx,Nat.add_mul];omega
  rw [e,flat_get L i r (fun y hy=>hs y (by simp [hy])) hr (by simpa using hi)]
  rfl
theorem info26:(Tryz.prog.info? 35).map (fun i=>(i.zero,i.size,i.bytes))=some (some (.agg #[.int .i64 0,.int .i64 0,.string ByteArray.empty,.slice none 0 0,.slice none 0 0,.bool false,.slice none 0 0]),7,112):=by kernel_rfl
def hcells (L:List HX):List Value:=(L.map fun y=>y.1.vals.toList).flatten
theorem hcells_snoc (L:List HX) (y:HX):hcells (L++[y])=hcells L++y.1.vals.toList:=by simp [hcells]
theorem hcells_len:∀L:List HX,(hcells L).length=L.length*7
 |[]=>rfl
 |y::L=>by
  have:=hcells_len L
  simp only [hcells,List.map_cons,List.flatten_cons,List.length_append,List.length_cons] at this⊢
  rw [this];simp [Hd.vals];omega
theorem vals_one (h:Hd):∀u∈h.vals.toList,u.oneCell'=true:=by
 intro u hu;simp [Hd.vals] at hu;rcases hu with rfl|rfl|rfl|rfl|rfl|rfl|rfl<;>rfl
theorem row_ks {w:World} {base n:Nat} {v:Value} {L:List HX} {I:Hd→Ex→Prop} (h:w.ownsRow base 35 7 v n (hcells L)) (hn:L.length=n) (hz:n≤140737488355328) (hI:∀y∈L,I y.1 y.2):
  ∃a c,v= .slice a n c∧InKs I w a n (L.map (·.2)):=by
 rcases h.2 with ⟨rfl,hn0⟩|⟨g,cap,cur,rfl,hb,hg,hcap,hm,hsz,htake⟩
 ·obtain rfl:n=0:=hn0
  obtain rfl:L=[]:=List.length_eq_zero_iff.1 hn
  exact ⟨none,0,rfl,ks0 _ _⟩
 ·refine ⟨_,cap,rfl,by simpa using hn,hz,fun i hi=>?_⟩
  have hi2:i<L.length:=by simpa using hi
  have hc:∀r,r<7→w.cell? ⟨g,i*7+r,none⟩=(L[i].1.vals.toList)[r]?:=fun r hr=>by
   have h1:=h.cells (g:=g) rfl (i*7+r)
   have h2:(hcells L)[i*7+r]?=(L[i].1.vals.toList)[r]?:=by
    unfold hcells
    rw [flat_get _ i r (fun x hx=>by obtain ⟨y,_,rfl⟩:=List.mem_map.1 hx;rfl) hr (by simpa using hi2)]
    simp
   have h3:∃u,(L[i].1.vals.toList)[r]?=some u:=⟨_,List.getElem?_eq_getElem (by simp [Hd.vals];omega)⟩
   obtain ⟨u,hu⟩:=h3
   rw [hu] at h2⊢
   have:=h1 u h2
   rwa [show (⟨g,0,none⟩:Addr).add (i*7+r)=⟨g,i*7+r,none⟩ by unfold Addr.add;split<;>simp_all] at this
  refine ⟨g,0,L[i].1,rfl,(Array.getElem?_eq_some_iff.1 hg).1,?_,by simpa using hI _ (List.getElem_mem hi2)⟩
  rw [Nat.zero_add]
  exact ⟨hc 0 (by omega),hc 1 (by omega),hc 2 (by omega),hc 3 (by omega),hc 4 (by omega),hc 5 (by omega),hc 6 (by omega)⟩
def KsP (w0:World) (n:Nat) (l:List Ex) (w:World) (e:Ending) (w':World):Prop:=∃a k c,e= .returned (.slice a k c)∧InKs (InX w0 n) w' a k l∧Below w.heap.size w w'∧∀b off,a=some ⟨b,off,none⟩→0<k→b<w0.heap.size∨w.heap.size≤b
set_option maxRecDepth 100000 in
set_option maxHeartbeats 4000000 in
theorem rparts_any (w0 w:World) (n:Nat) (h:Hd) (x:Ex) (hx:InX w0 (n+1) h x) (hb0:Below w0.heap.size w0 w) (hsm:x.ps.length≤1000000):Calls Tryz.prog 73 #[h.agg] w (KsP w0 n x.parts w):=by
 obtain ⟨xop,xn,xs,xpath,ps,xo,ks⟩:=x
 obtain ⟨op,nn,s,p,pl,pc,q,ql,qc,o,k,kl,kc⟩:=h
 replace hsm:ps.length≤1000000:=hsm
 obtain ⟨rfl,rfl,rfl,rfl,_,_,hps,hks⟩:=hx
 dsimp only at hps hks
 unfold Hd.agg
 dsimp only
 by_cases h10:op=10
 ·subst h10
  obtain ⟨i0,hi,hz0,hz1,hz2⟩:=info_parts info26
  have hmax:=hps.max
  obtain rfl:=hps.count
  have HPS:=Lib.hid hps.at_
  have HB0:=Lib.hid hb0
  have HBX:Hid (BoxH (w.alloc (.cells #[.int .i64 10,.int .i64 nn,.string s,.slice p pl pc,.slice q ps.length qc,.bool o,.slice k kl kc] 35)) w.heap.size ⟨10,nn,s,p,pl,pc,q,ps.length,qc,o,k,kl,kc⟩):=World.alloc_heap_new w _
  have HB1:Hid (Below w.heap.size w (w.alloc (.cells #[.int .i64 10,.int .i64 nn,.string s,.slice p pl pc,.slice q ps.length qc,.bool o,.slice k kl kc] 35))):=below_alloc (Below.refl _ _) _
  clear hps hks hb0
  go_enter Tryz.func73,Tryz.ntmps73
  go_wp2_with fail
  obtain ⟨W1,hW1⟩:∃W1,w.alloc (.cells #[.int .i64 10,.int .i64 nn,.string s,.slice p pl pc,.slice q ps.length qc,.bool o,.slice k kl kc] 35)=W1:=⟨_,rfl⟩
  rw [hW1] at HBX HB1⊢
  clear hW1
  go_loopw [3,4] (fun v i wr=>∃(j:Nat) (L:List HX),j≤ps.length∧i= .int .i64 j∧Hid (L.map (·.2)=(ps.take j).map (·.2)∧∀y∈L,InX w0 n y.1 y.2)∧Hid (wr.ownsRow W1.heap.size 35 7 v j (hcells L))∧Hid (Below W1.heap.size W1 wr)) (fun _ i _=>ps.length-(intOf i).toNat)
  case atStart=>exact ⟨0,[],Nat.zero_le _,rfl,⟨rfl,fun y hy=>absurd hy (by simp)⟩,World.ownsRow_nil _ _ _ _,Below.refl _ _⟩
  case round=>
   obtain ⟨j,L,hj,rfl,hL,hO,hB⟩:=hrel
   rename World=>wr
   have v1:=((hB.out.block _ HBX.out.lt).trans HBX.out:BoxH wr w.heap.size _)|>BoxH.cells|>HdAt.c4
   simp only [Nat.zero_add] at v1
   have hbw:=below_step HB0.out (below_step HB1.out hB.out)
   have hz1b:=hB.out.size
   have hlb:=HBX.out.lt
   by_cases hlt:j<ps.length
   ·have hki:(j:Int)<(ps.length:Int):=by omega
    have hk0:(0:Int)≤(j:Int):=by omega
    obtain ⟨b,off,x,rfl,lt,-,-,hx,hI⟩:=HPS.out j hlt
    have hx2:=HdAt.below hx hbw lt
    have HL2:=Lib.hid (show (L++[((x,ps[j].2):HX)]).map (·.2)=(ps.take (j+1)).map (·.2)∧∀y∈L++[((x,ps[j].2):HX)],InX w0 n y.1 y.2 from ⟨by rw [List.map_append,hL.out.1,List.take_succ_eq_append_getElem hlt,List.map_append];rfl,fun y hy=>by
     rcases List.mem_append.1 hy with h|h
     ·exact hL.out.2 y h
     ·rw [List.mem_singleton.1 h];exact hI⟩)
    have HS2:=Lib.hid (hcells_snoc L (x,ps[j].2))
    obtain ⟨op2,nn2,s2,p2,pl2,pc2,q2,ql2,qc2,o2,k2,kl2,kc2⟩:=x
    obtain ⟨c0,c1,c2,c3,c4,c5,c6⟩:=hx2
    dsimp only at c0 c1 c2 c3 c4 c5 c6
    clear hx hI hbw lt hL
    have HCN:Hid (∀r u,[Value.int .i64 op2,.int .i64 nn2,.string s2,.slice p2 pl2 pc2,.slice q2 ql2 qc2,.bool o2,.slice k2 kl2 kc2][r]?=some u→(wr.alloc (.cells #[.int .i64 op2,.int .i64 nn2,.string s2,.slice p2 pl2 pc2,.slice q2 ql2 qc2,.bool o2,.slice k2 kl2 kc2] 35)).cell? ((⟨wr.heap.size,0,none⟩:Addr).add r)=some u):=World.news_of_block (World.alloc_heap_new wr _)
    go_wp2_with (at_builtin;refine wpList_append_own _ rfl _ _ 33 rfl W1.heap.size 35 i0 _ 7 112 Tryz.underlying33 hi hz0 hz1 hz2 rfl (by decide) _ j _ rfl (hO.out.alloc _) ⟨wr.heap.size,0,none⟩ 1 1 [.int .i64 op2,.int .i64 nn2,.string s2,.slice p2 pl2 pc2,.slice q2 ql2 qc2,.bool o2,.slice k2 kl2 kc2] rfl rfl HCN.out (fun x hx=>by simp at hx;rcases hx with rfl|rfl|rfl|rfl|rfl|rfl|rfl<;>rfl) (by unfold maxLen;omega) (by omega) (by simp;omega) ?_;intro v' w3 hown' hgrow3 hnil3;have OW3:=Lib.hid hown';have G3:=Lib.hid hgrow3;clear hown' hgrow3 hnil3)
    go_roundw
    case rel=>exact ⟨j+1,_,by omega,by go_num,HL2.out,(by rw [HS2.out];exact OW3.out),((hB.out.alloc hz1b _).grown G3.out (by simp;omega) (own_base hO.out))⟩
    case measure=>simp [intOf];omega
   ·obtain rfl:j=ps.length:=by omega
    have hl2:L.length=ps.length:=by have:=congrArg List.length hL.out.1;simpa using this
    obtain ⟨a,c,rfl,hK⟩:=row_ks hO.out hl2 hmax hL.out.2
    have HK:=Lib.hid hK
    have HL:=Lib.hid hL.out.1
    have HOB:=Lib.hid (own_base hO.out)
    clear hK hbw
    go_wp2_with fail
    go_ret
    refine ⟨_,_,_,rfl,?_,below_step HB1.out hB.out,fun b off e _=> .inr (by subst e;have:=HOB.out b rfl;have:=HB1.out.size;omega)⟩
    rw [HL.out,List.take_length] at HK
    exact HK.out
 ·have e1:(op==10)=false:=by simpa using h10
  have e2:(op !=10)=true:=by simpa using h10
  have HK:=Lib.hid (show InKs (InX w0 n) w k kl ks from hks.below (fun _ _ h=>h) hb0)
  have HE:=Lib.hid (show (Ex.mk op nn s xpath ps o ks).parts=ks from if_neg h10)
  have HK0:=Lib.hid hks
  clear h10 hps hks
  go_enter Tryz.func73,Tryz.ntmps73
  go_wp2_with fail
  go_ret
  refine ⟨_,_,_,rfl,?_,below_alloc (Below.refl _ _) _,fun b off e h0=> .inl ?_⟩
  case refine_2=>
   obtain ⟨b2,off2,y,e2,lt,_⟩:=HK0.out.at_ 0 (by rw [HK0.out.count];exact h0)
   rw [e2] at e
   injection e with e3
   injection e3 with e4
   omega
  rw [HE.out]
  exact HK.out.below (fun _ _ h=>h) (below_alloc (Below.refl _ _) _)
end Go.Proofs.YtkfihhagcimcmaaGreatDoor
namespace Go.Proofs.YtkfihhagcimcmaaGreatDoor
open Go.RowKit
def tN:Nat→Ex→Nat
 |0,_=>0
 |n+1,x=>1+(x.ps.map fun p=>tN n p.2).sum+(x.ks.map (tN n)).sum
theorem sum_mem {l:List Nat} {a:Nat} (h:a∈l):a≤l.sum:=by
 induction l with
 |nil=>cases h
 |cons b l ih=>
  rw [List.sum_cons]
  rcases List.mem_cons.1 h with rfl|h
  ·omega
  ·have:=ih h;omega
theorem sum_len {l:List Nat} (h:∀a∈l,1≤a):l.length≤l.sum:=by
 induction l with
 |nil=>simp
 |cons b l ih=>
  rw [List.sum_cons,List.length_cons]
  have h1:=h b (by simp)
  have h2:=ih fun a ha=>h a (by simp [ha])
  omega
theorem tN_pos {w:World} {n:Nat} {h:Hd} {x:Ex} (hx:InX w n h x):1≤tN n x:=by
 obtain ⟨m,rfl⟩:=hx.pos
 show 1≤1+_+_
 omega
theorem ps_each {w:World} {n:Nat} {h:Hd} {x:Ex} (hx:InX w (n+1) h x):∀p∈x.ps,∃h',InX w n h' p.2:=fun p hp=>by
 obtain ⟨op,m,s,pa,ps,o,ks⟩:=x
 obtain ⟨i,hi,rfl⟩:=List.mem_iff_getElem.1 hp
 obtain ⟨b,off,y,_,_,_,_,_,hI⟩:=hx.2.2.2.2.2.2.1.at_ i hi
 exact ⟨y,hI⟩
theorem ks_each {w:World} {n:Nat} {h:Hd} {x:Ex} (hx:InX w (n+1) h x):∀k∈x.ks,∃h',InX w n h' k:=fun k hk=>by
 obtain ⟨op,m,s,pa,ps,o,ks⟩:=x
 obtain ⟨i,hi,rfl⟩:=List.mem_iff_getElem.1 hk
 obtain ⟨b,off,y,_,_,_,hI⟩:=hx.2.2.2.2.2.2.2.at_ i hi
 exact ⟨y,hI⟩
theorem ps_len {w:World} {n:Nat} {h:Hd} {x:Ex} (hx:InX w (n+1) h x):x.ps.length+x.ks.length+1≤tN (n+1) x:=by
 have h1:=sum_len (l:=x.ps.map fun p=>tN n p.2) (fun a ha=>by obtain ⟨p,hp,rfl⟩:=List.mem_map.1 ha;obtain ⟨h',hh⟩:=ps_each hx p hp;exact tN_pos hh)
 have h2:=sum_len (l:=x.ks.map (tN n)) (fun a ha=>by obtain ⟨p,hp,rfl⟩:=List.mem_map.1 ha;obtain ⟨h',hh⟩:=ks_each hx p hp;exact tN_pos hh)
 rw [List.length_map] at h1 h2
 show _≤1+_+_
 omega
theorem part_le {n:Nat} {x y:Ex} (hy:y∈x.parts):tN n y≤tN (n+1) x:=by
 unfold Ex.parts at hy
 show _≤1+_+_
 split at hy
 ·obtain ⟨p,hp,rfl⟩:=List.mem_map.1 hy
  have:=sum_mem (l:=x.ps.map fun p=>tN n p.2) (List.mem_map.2 ⟨p,hp,rfl⟩)
  omega
 ·have:=sum_mem (l:=x.ks.map (tN n)) (List.mem_map.2 ⟨y,hy,rfl⟩)
  omega
theorem mxL_max (l:List Int) (x:Int):mxL (l++[x])=if mxL l<x then x else mxL l:=by
 rw [mxL_snoc];omega
set_option maxRecDepth 100000 in
set_option maxHeartbeats 4000000 in
theorem rdepth_step (w0:World) (n:Nat) (ih:∀(h:Hd) (x:Ex) (w:World),InX w0 n h x→Below w0.heap.size w0 w→tN n x≤1000000→Calls Tryz.prog 32 #[h.agg] w (IntP (depW n x) w))
  (h:Hd) (x:Ex) (w:World) (hx:InX w0 (n+1) h x) (hb0:Below w0.heap.size w0 w) (hsm:tN (n+1) x≤1000000):Calls Tryz.prog 32 #[h.agg] w (IntP (depW (n+1) x) w):=by
 have hpl:=ps_len hx
 have KP:=fun (W:World) (hW:Below w.heap.size w W)=>Lib.hid (rparts_any w0 W n h x hx (below_step hb0 hW) (by omega))
 have HP:=Lib.hid (fun y (hy:y∈x.parts)=>part_le (n:=n) hy)
 have HSM:=Lib.hid hsm
 have IH:=Lib.hid ih
 have HB0:=Lib.hid hb0
 obtain ⟨op,nn,s,p,pl,pc,q,ql,qc,o,k,kl,kc⟩:=h
 unfold Hd.agg at KP
 unfold Hd.agg
 dsimp only at KP⊢
 have HB1:Hid (Below w.heap.size w (w.alloc (.cells #[.int .i64 op,.int .i64 nn,.string s,.slice p pl pc,.slice q ql qc,.bool o,.slice k kl kc] 35))):=below_alloc (Below.refl _ _) _
 obtain ⟨L,hL⟩:∃L,x.parts=L:=⟨_,rfl⟩
 have HD:=Lib.hid (show depW (n+1) x=wrap64 (1+mxL (L.map (depW n))) by rw [←hL];rfl)
 rw [hL] at HP KP
 clear hx hb0 hsm ih hpl hL
 go_enter Tryz.func32,Tryz.ntmps32
 go_wp2_with (go_at_call 73;refine (KP _ HB1.out).out.mono ?_;rintro e w2 ⟨a,kk,cc,rfl,hk,hb2,-⟩;have HK:=Lib.hid hk;have HB2:=Lib.hid (below_step HB1.out hb2);clear hk hb2)
 clear KP HB1
 obtain rfl:=HK.out.count
 have hkm:=HK.out.max
 go_loopw [3,5,6] (fun v i _ wr=>∃(j:Nat),j≤L.length∧i= .int .i64 j∧v= .int .i64 (mxL ((L.take j).map (depW n)))∧Hid (Below w2.heap.size w2 wr)) (fun _ i _ _=>L.length-(intOf i).toNat)
 case atStart=>exact ⟨0,Nat.zero_le _,rfl,rfl,Below.refl _ _⟩
 case round=>
  obtain ⟨j,hj,rfl,rfl,hB⟩:=hrel
  rename World=>wr
  obtain ⟨v,hv⟩:∃v,mxL ((L.take j).map (depW n))=v:=⟨_,rfl⟩
  rw [hv]
  by_cases hlt:j<L.length
  ·have hki:(j:Int)<(L.length:Int):=by omega
   have hk0:(0:Int)≤(j:Int):=by omega
   obtain ⟨b,off,y,rfl,lt,hy,hI⟩:=HK.out.at_ j hlt
   have hy2:=HdAt.below hy hB.out lt
   have hlz:=Nat.lt_of_lt_of_le lt hB.out.size
   have KD:=Lib.hid (IH.out y L[j] wr hI (below_step HB0.out (below_step HB2.out hB.out)) (Nat.le_trans (HP.out _ (List.getElem_mem hlt)) HSM.out))
   obtain ⟨d,hd⟩:∃d,depW n L[j]=d:=⟨_,rfl⟩
   rw [hd] at KD
   have HM:=Lib.hid (show mxL ((L.take (j+1)).map (depW n))=if v<d then d else v by
    rw [List.take_succ_eq_append_getElem hlt,List.map_append,List.map_cons,List.map_nil,mxL_max,hv,hd])
   obtain ⟨op2,nn2,s2,p2,pl2,pc2,q2,ql2,qc2,o2,k2,kl2,kc2⟩:=y
   obtain ⟨c0,c1,c2,c3,c4,c5,c6⟩:=hy2
   dsimp only at c0 c1 c2 c3 c4 c5 c6
   unfold Hd.agg at KD
   dsimp only at KD
   clear hy hI lt hv hd
   by_cases hvd:v<d
   ·go_wp2_with (go_at_call 32;refine KD.out.mono ?_;rintro e w5 ⟨rfl,hb5⟩;have HB5:=Lib.hid hb5;clear hb5)
    go_roundw
    case rel=>exact ⟨j+1,by omega,by go_num,by rw [HM.out,if_pos hvd],below_step hB.out HB5.out⟩
    case measure=>simp [intOf];omega
   ·go_wp2_with (go_at_call 32;refine KD.out.mono ?_;rintro e w5 ⟨rfl,hb5⟩;have HB5:=Lib.hid hb5;clear hb5)
    go_roundw
    case rel=>exact ⟨j+1,by omega,by go_num,by rw [HM.out,if_neg (by omega)],below_step hB.out HB5.out⟩
    case measure=>simp [intOf];omega
  ·obtain rfl:j=L.length:=by omega
   have HM:=Lib.hid (show depW (n+1) x=wrap64 (1+v) by rw [HD.out,←hv,List.take_length])
   clear hv
   go_wp2_with fail
   go_ret
   exact ⟨ret_int (by rw [HM.out]),below_step HB2.out hB.out⟩
theorem rdepth_any (w0:World):∀(n:Nat) (h:Hd) (x:Ex) (w:World),InX w0 n h x→Below w0.heap.size w0 w→tN n x≤1000000→Calls Tryz.prog 32 #[h.agg] w (IntP (depW n x) w)
 |0,_,_,_,h,_,_=>h.elim
 |n+1,h,x,w,hx,hb,hs=>rdepth_step w0 n (rdepth_any w0 n) h x w hx hb hs
end Go.Proofs.YtkfihhagcimcmaaGreatDoor
