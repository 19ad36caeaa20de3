/- Qf, Qh, Qi, Qj -/
import Derived.Test.YtkfihhagcimcmaaGreatDoorChecked
import Derived.Test.YtkfihhagcimcmaaGreatDoorProg
import Derived.Test.YtkfihhagcimcmaaGreatDoorY1
import Derived.Test.YtkfihhagcimcmaaGreatDoorYbb
import Derived.Test.YtkfihhagcimcmaaGreatDoorYbg
namespace Go.Proofs.YtkfihhagcimcmaaGreatDoor.Ps
open Go.RowKit
open Lx (Tok bs bl_alloc bl_step)
def St.open_ (s:St):St:=if s.o=16 then s.fail s.pk 22 else {s with o:=s.o+1}.next
def St.named (s:St):St×ByteArray:=if nameB s.L then (s.next,bs s.pk.x.t) else (s.fail s.pk 21,⟨#[]⟩)
def St.number (s:St):St×Int:=
 let t:=if s.is [45] then s.next else s
 if t.pk.x.k=1 then (t.next,(if s.is [45] then-1 else 1)*t.pk.x.n) else (t.fail t.pk 21,0)
theorem SW.pk_n {w:World} {s:St} (h:SW w s): -9007199254740992≤s.pk.x.n∧s.pk.x.n≤9007199254740992∧s.pk.x.t.length≤4096:=by
 by_cases hi:s.i<s.T.length
 ·rw [St.pk_at hi]
  have:=h.ok _ (List.getElem_mem hi)
  exact ⟨this.lo,this.hi,this.len⟩
 ·rw [St.pk_end (by omega)]
  exact ⟨(by decide:(-9007199254740992:Int)≤0),(by decide:(0:Int)≤9007199254740992),Nat.zero_le _⟩
theorem put6_size (w:World) (b:Nat) (v0 v1 v2 v3 v4 v5:Value):(put6 w b v0 v1 v2 v3 v4 v5).heap.size=w.heap.size:=by simp [put6,World.setCell]
theorem setCell_grown (w:World) (b i:Nat) (v:Value):w.grownBy (w.setCell ⟨b,i,none⟩ v) (some b):=⟨rfl,rfl,rfl,by simp [World.setCell],fun k hk hne=>Below.heap_setCell w ⟨b,i,none⟩ v k (fun e=>hne (by rw [e]))⟩
abbrev BL:=List (Nat×Array Value×TypeId)
def Nes (a:Nat):List Nat→Prop
 |[]=>True
 |b::l=>(a≠b∧b≠a)∧Nes a l
def Fs (w:World):BL→Prop
 |[]=>True
 |x::l=>((∀o,w.cell? ⟨x.1,o,none⟩=x.2.1[o]?)∧(∀o,w.frozen? ⟨x.1,o,none⟩=false)∧Nes x.1 (l.map Prod.fst))∧Fs w l
structure Fr (w0 w:World) (l:BL):Prop where
 bl:Below w0.heap.size w0 w
 at_:∀x∈l,Bx w x.1 x.2.1 x.2.2∧w0.heap.size≤x.1
 ap:(l.map Prod.fst).Nodup
theorem nes_of {a:Nat}:∀{l:List Nat},a∉l→Nes a l
 |[],_=>trivial
 |b::l,h=>⟨⟨fun e=>h (by rw [e];exact List.mem_cons_self ..),fun e=>h (by rw [←e];exact List.mem_cons_self ..)⟩,nes_of fun hm=>h (List.mem_cons_of_mem _ hm)⟩
theorem fs_of {w:World}:∀{l:BL},(∀x∈l,Bx w x.1 x.2.1 x.2.2)→(l.map Prod.fst).Nodup→Fs w l
 |[],_,_=>trivial
 |x::l,h,hn=>by
  rw [List.map_cons,List.nodup_cons] at hn
  have hx:=h x (List.mem_cons_self ..)
  refine ⟨⟨fun o=>?_,fun o=>hx.fz o,nes_of hn.1⟩,fs_of (fun y hy=>h y (List.mem_cons_of_mem _ hy)) hn.2⟩
  unfold Bx at hx
  simp [World.cell?,hx]
theorem set_fst {l:BL} {i b:Nat} {cs cs':Array Value} {t:TypeId} (hi:l[i]?=some (b,cs,t)):(l.set i (b,cs',t)).map Prod.fst=l.map Prod.fst:=by
 apply List.ext_getElem?
 intro j
 rw [List.getElem?_map,List.getElem?_map,List.getElem?_set]
 split
 ·rename_i e
  subst e
  split
  ·rw [hi];rfl
  ·rename_i h;rw [List.getElem?_eq_none (by omega)]
 ·rfl
theorem Fr.start (w:World):Fr w w []:=⟨Below.refl _ _,fun x h=>absurd h (by simp),.nil⟩
section
variable {w0 w w':World} {l:BL} (h:Fr w0 w l)
include h
theorem Fr.facts:Fs w l:=fs_of (fun x hx=>(h.at_ x hx).1) h.ap
theorem Fr.size:w0.heap.size≤w.heap.size:=h.bl.size
theorem Fr.lt {i b:Nat} {cs:Array Value} {t:TypeId} (hi:l[i]?=some (b,cs,t)):b<w.heap.size∧w0.heap.size≤b:=by
 have:=h.at_ _ (List.mem_of_getElem? hi)
 exact ⟨this.1.lt,this.2⟩
theorem Fr.fresh {b:Nat} (hb:w.heap.size≤b):b∉l.map Prod.fst:=fun hm=>by
 obtain ⟨x,hx,rfl⟩:=List.mem_map.1 hm
 have:=(h.at_ x hx).1.lt
 omega
theorem Fr.call (hb:Below w.heap.size w w'):Fr w0 w' l:=⟨bl_step h.bl hb,fun x hx=>⟨(h.at_ x hx).1.below hb,(h.at_ x hx).2⟩,h.ap⟩
theorem Fr.old (o:Obj):Fr w0 (w.alloc o) l:=h.call (bl_alloc (Below.refl _ _))
theorem Fr.drew:Fr w0 w.drew l:=h.call (Below.refl _ _).drew
theorem Fr.new (cs:Array Value) (t:TypeId):Fr w0 (w.alloc (.cells cs t)) ((w.heap.size,cs,t)::l):=
 ⟨(h.old (.cells cs t)).bl,fun x hx=>by
  rcases List.mem_cons.1 hx with rfl|hx
  ·exact ⟨Bx.new w cs t,h.bl.size⟩
  ·exact (h.old (.cells cs t)).at_ x hx,by
  rw [List.map_cons,List.nodup_cons]
  exact ⟨h.fresh (Nat.le_refl _),h.ap⟩⟩
theorem Fr.away {r:Option Nat} (g:w.grownBy w' r) (hr:∀k,r=some k→w0.heap.size≤k∧k∉l.map Prod.fst):Fr w0 w' l:=
 ⟨h.bl.grown g h.bl.size fun k e=>(hr k e).1,fun x hx=>⟨(g.block _ (h.at_ x hx).1.lt fun e=>(hr _ e.symm).2 (List.mem_map_of_mem hx)).trans (h.at_ x hx).1,(h.at_ x hx).2⟩,h.ap⟩
theorem Fr.grown (i:Nat) {b:Nat} {cs cs':Array Value} {t:TypeId} (hi:l[i]?=some (b,cs,t)) (g:w.grownBy w' (some b)) (hn:Bx w' b cs' t):Fr w0 w' (l.set i (b,cs',t)):=by
 have hb:=h.lt hi
 refine ⟨h.bl.grown g h.bl.size fun k e=>by cases e;exact hb.2,fun x hx=>?_,by rw [set_fst hi];exact h.ap⟩
 obtain ⟨j,hj⟩:=List.mem_iff_getElem?.1 hx
 rw [List.getElem?_set] at hj
 split at hj
 ·rename_i e
  split at hj
  ·injection hj with hj;subst hj;exact ⟨hn,hb.2⟩
  ·cases hj
 ·rename_i e
  have hx2:=h.at_ x (List.mem_of_getElem? hj)
  refine ⟨(g.block _ hx2.1.lt fun e2=>?_).trans hx2.1,hx2.2⟩
  have e3:x.1=b:=Option.some.inj e2
  have p1:(l.map Prod.fst)[i]?=some b:=by rw [List.getElem?_map,hi];rfl
  have p2:(l.map Prod.fst)[j]?=some b:=by rw [List.getElem?_map,hj,←e3];rfl
  obtain ⟨q1,r1⟩:=List.getElem?_eq_some_iff.1 p1
  obtain ⟨q2,r2⟩:=List.getElem?_eq_some_iff.1 p2
  have hp:=List.pairwise_iff_getElem.1 h.ap
  rcases Nat.lt_or_ge i j with hl|hl
  ·exact hp i j q1 q2 hl (r1.trans r2.symm)
  ·exact hp j i q2 q1 (by omega) (r2.trans r1.symm)
theorem Fr.put6 (i:Nat) {b:Nat} {t:TypeId} {u0 u1 u2 u3 u4 u5:Value} (hi:l[i]?=some (b,#[u0,u1,u2,u3,u4,u5],t)) (v0 v1 v2 v3 v4 v5:Value):Fr w0 (Ps.put6 w b v0 v1 v2 v3 v4 v5) (l.set i (b,#[v0,v1,v2,v3,v4,v5],t)):=
 h.grown i hi (put6_grown w b v0 v1 v2 v3 v4 v5) (put6_bx (h.at_ _ (List.mem_of_getElem? hi)).1)
theorem Fr.put7 (i:Nat) {b:Nat} {t:TypeId} {u0 u1 u2 u3 u4 u5 u6:Value} (hi:l[i]?=some (b,#[u0,u1,u2,u3,u4,u5,u6],t)) (v0 v1 v2 v3 v4 v5 v6:Value):Fr w0 (Ps.put7 w b v0 v1 v2 v3 v4 v5 v6) (l.set i (b,#[v0,v1,v2,v3,v4,v5,v6],t)):=
 h.grown i hi (put7_grown w b v0 v1 v2 v3 v4 v5 v6) (put7_bx (h.at_ _ (List.mem_of_getElem? hi)).1)
theorem Fr.set (i j:Nat) {b:Nat} {cs:Array Value} {t:TypeId} (hi:l[i]?=some (b,cs,t)) (v:Value):Fr w0 (w.setCell ⟨b,j,none⟩ v) (l.set i (b,cs.setIfInBounds j v,t)):=
 h.grown i hi (setCell_grown w b j v) (h.at_ _ (List.mem_of_getElem? hi)).1.set
end
theorem Fr.tail {w0 w:World} {x:Nat×Array Value×TypeId} {l:BL} (h:Fr w0 w (x::l)):Fr w0 w l:=
 ⟨h.bl,fun y hy=>h.at_ y (List.mem_cons_of_mem _ hy),by have:=h.ap;rw [List.map_cons,List.nodup_cons] at this;exact this.2⟩
theorem Fr.new_ {w0 w:World} {l:BL} (h:Fr w0 w l) (cs:Array Value) (t:TypeId) {n:Nat} (hn:w.heap.size=n):Fr w0 (w.alloc (.cells cs t)) ((n,cs,t)::l):=by subst hn;exact h.new cs t
theorem Fr.start3 (w:World) (c0 c1 c2:Array Value) (t0 t1 t2:TypeId):Fr w (((w.alloc (.cells c0 t0)).alloc (.cells c1 t1)).alloc (.cells c2 t2)) [(w.heap.size+2,c2,t2),(w.heap.size+1,c1,t1),(w.heap.size,c0,t0)]:=
 (((Fr.start w).new_ c0 t0 rfl).new_ c1 t1 (World.size_alloc _ _)).new_ c2 t2 (by rw [World.size_alloc,World.size_alloc])
theorem Fr.start2 (w:World) (c0 c1:Array Value) (t0 t1:TypeId):Fr w ((w.alloc (.cells c0 t0)).alloc (.cells c1 t1)) [(w.heap.size+1,c1,t1),(w.heap.size,c0,t0)]:=
 ((Fr.start w).new_ c0 t0 rfl).new_ c1 t1 (World.size_alloc _ _)
set_option maxRecDepth 100000 in
set_option maxHeartbeats 16000000 in
theorem smust_any (w:World) (s:St) (sg:ByteArray) (h:SW w s):Calls Tryz.prog 58 #[s.v,.string sg] w (Ans (s.must sg.toList).v w):=by
 obtain ⟨b,hb⟩:∃b,s.is sg.toList=b:=⟨_,rfl⟩
 have HI:=Lib.hid hb
 obtain ⟨k,n,tx,at_,ht⟩:=s.pk_get
 have HT:=Lib.hid ht
 unfold St.must
 rw [hb,ht]
 obtain ⟨a0,cap0,T0,i0,E0,o0,b0,x0⟩:=s
 have H0:=Lib.hid h
 have HF:=Lib.hid (Fr.start2 w #[.slice a0 T0.length cap0,.int .i64 (i0:Int),.int .i64 E0,.int .i64 o0,.int .i64 b0,.int .i64 x0] #[.slice none 0 0,.int .i64 0,.int .i64 0,.int .i64 0,.int .i64 0,.int .i64 0] 95 95)
 have f:=HF.out.facts;dsimp only [Fs,Nes,List.map] at f
 clear h hb ht
 cases b with
 |true=>
  rw [if_pos rfl]
  obtain ⟨a1,cap1,T1,i1,E1,o1,b1,x1,hn⟩:=(St.next ⟨a0,cap0,T0,i0,E0,o0,b0,x0⟩).get
  have HN:=Lib.hid hn
  rw [hn]
  clear hn
  unfold St.v
  dsimp only
  have HNX:∀W,Hid (Calls Tryz.prog 56 #[.agg #[.slice a0 T0.length cap0,.int .i64 (i0:Int),.int .i64 E0,.int .i64 o0,.int .i64 b0,.int .i64 x0]] W (Ans (.agg #[.slice a1 T1.length cap1,.int .i64 (i1:Int),.int .i64 E1,.int .i64 o1,.int .i64 b1,.int .i64 x1]) W)):=fun W=>Lib.hid (snext_as W ⟨a0,cap0,T0,i0,E0,o0,b0,x0⟩ ⟨a1,cap1,T1,i1,E1,o1,b1,x1⟩ H0.out.i HN)
  go_enter Tryz.func58,Tryz.ntmps58
  go_wp2_with (first
   |(go_at_call 99;refine (sis_as _ ⟨a0,cap0,T0,i0,E0,o0,b0,x0⟩ sg _ (H0.out.below HF.out.bl) HI).mono ?_;rintro e w2 ⟨rfl,hb⟩;replace HF:=Lib.hid (HF.out.call hb);clear f;have f:=HF.out.facts;dsimp only [Fs,Nes,List.map] at f;clear hb)
   |(go_at_call 56;refine (HNX _).out.mono ?_;rintro e w3 ⟨rfl,hb⟩;replace HF:=Lib.hid (HF.out.call hb);clear f;have f1:=HF.out.facts;dsimp only [Fs,Nes,List.map] at f1;replace HF:=Lib.hid (by have t:=HF.out.put6 0 rfl (.slice a1 T1.length cap1) (.int .i64 (i1:Int)) (.int .i64 E1) (.int .i64 o1) (.int .i64 b1) (.int .i64 x1);simp only [List.set_cons_zero] at t;exact t);have f:=HF.out.facts;dsimp only [Fs,Nes,List.map] at f;unfold put6 at f;clear hb))
  exact bodyPost_ret (v:= .agg #[.slice a1 T1.length cap1,.int .i64 (i1:Int),.int .i64 E1,.int .i64 o1,.int .i64 b1,.int .i64 x1]) (by simp [results,Tryz.results58,go_sem,f]) rfl ⟨rfl,HF.out.bl⟩
 |false=>
  rw [if_neg (by decide)]
  obtain ⟨a1,cap1,T1,i1,E1,o1,b1,x1,hn⟩:=(St.fail ⟨a0,cap0,T0,i0,E0,o0,b0,x0⟩ ⟨⟨k,n,tx.toList⟩,at_⟩ 21).get
  have HN:=Lib.hid hn
  rw [hn]
  clear hn
  unfold St.v
  dsimp only
  have HFL:∀W,Hid (Calls Tryz.prog 55 #[.agg #[.slice a0 T0.length cap0,.int .i64 (i0:Int),.int .i64 E0,.int .i64 o0,.int .i64 b0,.int .i64 x0],.agg #[.int .i64 k,.int .i64 n,.string tx,.int .i64 at_],.int .i64 21] W (Ans (.agg #[.slice a1 T1.length cap1,.int .i64 (i1:Int),.int .i64 E1,.int .i64 o1,.int .i64 b1,.int .i64 x1]) W)):=fun W=>Lib.hid (sfail_as W ⟨a0,cap0,T0,i0,E0,o0,b0,x0⟩ ⟨a1,cap1,T1,i1,E1,o1,b1,x1⟩ k n tx at_ 21 HN)
  go_enter Tryz.func58,Tryz.ntmps58
  go_wp2_with (go_at_call 99;refine (sis_as _ ⟨a0,cap0,T0,i0,E0,o0,b0,x0⟩ sg _ (H0.out.below HF.out.bl) HI).mono ?_;rintro e w2 ⟨rfl,hb⟩;replace HF:=Lib.hid (HF.out.call hb);clear f;have f:=HF.out.facts;dsimp only [Fs,Nes,List.map] at f;clear hb)
  refine wp_region_held (S:=fun w'=>(∀o,w'.cell? ⟨w.heap.size,o,none⟩=#[.slice a0 T0.length cap0,.int .i64 (i0:Int),.int .i64 E0,.int .i64 o0,.int .i64 b0,.int .i64 x0][o]?)) (by kernel_rfl) ?_
  obtain ⟨wd,hwd⟩:∃wd:World,wd={w2 with drawn:=w2.drawn+1}:=⟨_,rfl⟩
  have hbd:Below w2.heap.size w2 wd:=by rw [hwd];exact (Below.refl _ w2).drew
  rw [←hwd]
  clear hwd
  replace HF:=Lib.hid (HF.out.call hbd)
  clear f hbd
  have f:=HF.out.facts
  dsimp only [Fs,Nes,List.map] at f
  refine take_at' (i:=0) 9 (v:= .agg #[.slice a0 T0.length cap0,.int .i64 (i0:Int),.int .i64 E0,.int .i64 o0,.int .i64 b0,.int .i64 x0]) rfl rfl (by kernel_rfl) (by kernel_rfl) (by kernel_rfl) (fun _ _ _ h=>h) (Or.inl ⟨by rfl,fun w' hS=>by have g0:=hS;clear f;go_simp⟩) f.2.1.1 ?_
  refine take_at' (i:=1) 10 (v:= .agg #[.slice a0 T0.length cap0,.int .i64 (i0:Int),.int .i64 E0,.int .i64 o0,.int .i64 b0,.int .i64 x0]) rfl rfl (by kernel_rfl) (by kernel_rfl) (by kernel_rfl) (fun _ _ _ h=>h) (Or.inl ⟨by rfl,fun w' hS=>by have g0:=hS;clear f;go_simp⟩) f.2.1.1 ?_
  try simp only [List.setIfInBounds_toArray,List.set_cons_succ,List.set_cons_zero]
  refine wpAnyH_all (rs:=[2]) (by kernel_rfl) (by simp) ?_
  intro i hi
  obtain rfl:i=2:=by simpa using hi
  refine call_at 11 (f:=54) (args:=#[.agg #[.slice a0 T0.length cap0,.int .i64 (i0:Int),.int .i64 E0,.int .i64 o0,.int .i64 b0,.int .i64 x0]]) (w':=wd) rfl rfl rfl (by go_simp) ((peek_as _ ⟨a0,cap0,T0,i0,E0,o0,b0,x0⟩ k n at_ tx (H0.out.below HF.out.bl) HT).mono ?_)
  rintro e v1 ⟨rfl,hb⟩
  replace HF:=Lib.hid (HF.out.call hb)
  clear f hb
  have f:=HF.out.facts
  dsimp only [Fs,Nes,List.map] at f
  refine ⟨_,rfl,f.2.1.1,?_⟩
  try simp only [List.setIfInBounds_toArray,List.set_cons_succ,List.set_cons_zero]
  refine wpAnyH_all (rs:=[3]) (by kernel_rfl) (by simp) ?_
  intro i hi
  obtain rfl:i=3:=by simpa using hi
  refine call_at 12 (f:=55) (args:=#[.agg #[.slice a0 T0.length cap0,.int .i64 (i0:Int),.int .i64 E0,.int .i64 o0,.int .i64 b0,.int .i64 x0],.agg #[.int .i64 k,.int .i64 n,.string tx,.int .i64 at_],.int .i64 21]) (w':=v1) rfl rfl rfl (by go_simp) (((HFL _).out).mono ?_)
  rintro e v2 ⟨rfl,hb⟩
  replace HF:=Lib.hid (HF.out.call hb)
  clear f hb
  have f:=HF.out.facts
  dsimp only [Fs,Nes,List.map] at f
  refine ⟨_,rfl,f.2.1.1,?_⟩
  try simp only [List.setIfInBounds_toArray,List.set_cons_succ,List.set_cons_zero]
  refine wpAnyH_all (rs:=[4]) (by kernel_rfl) (by simp) ?_
  intro i hi
  obtain rfl:i=4:=by simpa using hi
  have HF2:=Lib.hid (by have t:=HF.out.put6 0 rfl (.slice a1 T1.length cap1) (.int .i64 (i1:Int)) (.int .i64 E1) (.int .i64 o1) (.int .i64 b1) (.int .i64 x1);simp only [List.set_cons_zero] at t;exact t)
  obtain ⟨v3,hwn⟩:∃x,x=put6 v2 (w.heap.size+1) (.slice a1 T1.length cap1) (.int .i64 (i1:Int)) (.int .i64 E1) (.int .i64 o1) (.int .i64 b1) (.int .i64 x1):=⟨_,rfl⟩
  rw [←hwn] at HF2
  have f2:=HF2.out.facts
  dsimp only [Fs,Nes,List.map] at f2
  refine skip_at (w':=v3) rfl rfl rfl (by rw [hwn];unfold put6;clear f2;go_simp) ⟨f2.2.1.1,?_⟩
  clear hwn f HF
  have HF:=HF2
  have f:=f2
  clear HF2 f2
  try simp only [List.setIfInBounds_toArray,List.set_cons_succ,List.set_cons_zero]
  refine wpAnyH_done (by kernel_rfl) ?_ _
  go_wp2_with fail
  exact bodyPost_ret (v:= .agg #[.slice a1 T1.length cap1,.int .i64 (i1:Int),.int .i64 E1,.int .i64 o1,.int .i64 b1,.int .i64 x1]) (by simp [results,Tryz.results58,go_sem,f]) rfl ⟨rfl,HF.out.bl⟩
set_option maxRecDepth 100000 in
set_option maxHeartbeats 16000000 in
theorem sopen_any (w:World) (s:St) (h:SW w s) (ho: -100≤s.o∧s.o≤100):Calls Tryz.prog 166 #[s.v] w (Ans s.open_.v w):=by
 obtain ⟨k,n,tx,at_,ht⟩:=s.pk_get
 have HT:=Lib.hid ht
 unfold St.open_
 rw [ht]
 obtain ⟨a0,cap0,T0,i0,E0,o0,b0,x0⟩:=s
 have H0:=Lib.hid h
 have HF:=Lib.hid (Fr.start2 w #[.slice a0 T0.length cap0,.int .i64 (i0:Int),.int .i64 E0,.int .i64 o0,.int .i64 b0,.int .i64 x0] #[.slice none 0 0,.int .i64 0,.int .i64 0,.int .i64 0,.int .i64 0,.int .i64 0] 95 95)
 have f:=HF.out.facts;dsimp only [Fs,Nes,List.map] at f
 have hoa:=ho.1
 have hob:=ho.2
 dsimp only at hoa hob⊢
 clear h ht ho
 by_cases h16:o0=16
 ·rw [if_pos h16]
  obtain ⟨a1,cap1,T1,i1,E1,o1,b1,x1,hn⟩:=(St.fail ⟨a0,cap0,T0,i0,E0,o0,b0,x0⟩ ⟨⟨k,n,tx.toList⟩,at_⟩ 22).get
  have HN:=Lib.hid hn
  rw [hn]
  have h16b:(o0==16)=true:=by simpa using h16
  clear hn h16
  unfold St.v
  dsimp only
  have HFL:∀W,Hid (Calls Tryz.prog 55 #[.agg #[.slice a0 T0.length cap0,.int .i64 (i0:Int),.int .i64 E0,.int .i64 o0,.int .i64 b0,.int .i64 x0],.agg #[.int .i64 k,.int .i64 n,.string tx,.int .i64 at_],.int .i64 22] W (Ans (.agg #[.slice a1 T1.length cap1,.int .i64 (i1:Int),.int .i64 E1,.int .i64 o1,.int .i64 b1,.int .i64 x1]) W)):=fun W=>Lib.hid (sfail_as W ⟨a0,cap0,T0,i0,E0,o0,b0,x0⟩ ⟨a1,cap1,T1,i1,E1,o1,b1,x1⟩ k n tx at_ 22 HN)
  go_enter Tryz.func166,Tryz.ntmps166
  go_wp2_with fail
  obtain ⟨wk,hwk⟩:∃x,x=(w.alloc (.cells #[.slice a0 T0.length cap0,.int .i64 (i0:Int),.int .i64 E0,.int .i64 o0,.int .i64 b0,.int .i64 x0] 95)).alloc (.cells #[.slice none 0 0,.int .i64 0,.int .i64 0,.int .i64 0,.int .i64 0,.int .i64 0] 95):=⟨_,rfl⟩
  rw [←hwk]
  rw [←hwk] at HF
  clear f hwk
  have f:=HF.out.facts
  dsimp only [Fs,Nes,List.map] at f
  refine wp_region_held (S:=fun w'=>(∀o,w'.cell? ⟨w.heap.size,o,none⟩=#[.slice a0 T0.length cap0,.int .i64 (i0:Int),.int .i64 E0,.int .i64 o0,.int .i64 b0,.int .i64 x0][o]?)) (by kernel_rfl) ?_
  obtain ⟨wd,hwd⟩:∃wd:World,wd={wk with drawn:=wk.drawn+1}:=⟨_,rfl⟩
  have hbd:Below wk.heap.size wk wd:=by rw [hwd];exact (Below.refl _ wk).drew
  rw [←hwd]
  clear hwd
  replace HF:=Lib.hid (HF.out.call hbd)
  clear f hbd
  have f:=HF.out.facts
  dsimp only [Fs,Nes,List.map] at f
  refine take_at' (i:=0) 6 (v:= .agg #[.slice a0 T0.length cap0,.int .i64 (i0:Int),.int .i64 E0,.int .i64 o0,.int .i64 b0,.int .i64 x0]) rfl rfl (by kernel_rfl) (by kernel_rfl) (by kernel_rfl) (fun _ _ _ h=>h) (Or.inl ⟨by rfl,fun w' hS=>by have g0:=hS;clear f;go_simp⟩) f.2.1.1 ?_
  refine take_at' (i:=1) 7 (v:= .agg #[.slice a0 T0.length cap0,.int .i64 (i0:Int),.int .i64 E0,.int .i64 o0,.int .i64 b0,.int .i64 x0]) rfl rfl (by kernel_rfl) (by kernel_rfl) (by kernel_rfl) (fun _ _ _ h=>h) (Or.inl ⟨by rfl,fun w' hS=>by have g0:=hS;clear f;go_simp⟩) f.2.1.1 ?_
  try simp only [List.setIfInBounds_toArray,List.set_cons_succ,List.set_cons_zero]
  refine wpAnyH_all (rs:=[2]) (by kernel_rfl) (by simp) ?_
  intro i hi
  obtain rfl:i=2:=by simpa using hi
  refine call_at 8 (f:=54) (args:=#[.agg #[.slice a0 T0.length cap0,.int .i64 (i0:Int),.int .i64 E0,.int .i64 o0,.int .i64 b0,.int .i64 x0]]) (w':=wd) rfl rfl rfl (by go_simp) ((peek_as _ ⟨a0,cap0,T0,i0,E0,o0,b0,x0⟩ k n at_ tx (H0.out.below HF.out.bl) HT).mono ?_)
  rintro e v1 ⟨rfl,hb⟩
  replace HF:=Lib.hid (HF.out.call hb)
  clear f hb
  have f:=HF.out.facts
  dsimp only [Fs,Nes,List.map] at f
  refine ⟨_,rfl,f.2.1.1,?_⟩
  try simp only [List.setIfInBounds_toArray,List.set_cons_succ,List.set_cons_zero]
  refine wpAnyH_all (rs:=[3]) (by kernel_rfl) (by simp) ?_
  intro i hi
  obtain rfl:i=3:=by simpa using hi
  refine call_at 9 (f:=55) (args:=#[.agg #[.slice a0 T0.length cap0,.int .i64 (i0:Int),.int .i64 E0,.int .i64 o0,.int .i64 b0,.int .i64 x0],.agg #[.int .i64 k,.int .i64 n,.string tx,.int .i64 at_],.int .i64 22]) (w':=v1) rfl rfl rfl (by go_simp) (((HFL _).out).mono ?_)
  rintro e v2 ⟨rfl,hb⟩
  replace HF:=Lib.hid (HF.out.call hb)
  clear f hb
  have f:=HF.out.facts
  dsimp only [Fs,Nes,List.map] at f
  refine ⟨_,rfl,f.2.1.1,?_⟩
  try simp only [List.setIfInBounds_toArray,List.set_cons_succ,List.set_cons_zero]
  refine wpAnyH_all (rs:=[4]) (by kernel_rfl) (by simp) ?_
  intro i hi
  obtain rfl:i=4:=by simpa using hi
  have HF2:=Lib.hid (by have t:=HF.out.put6 0 rfl (.slice a1 T1.length cap1) (.int .i64 (i1:Int)) (.int .i64 E1) (.int .i64 o1) (.int .i64 b1) (.int .i64 x1);simp only [List.set_cons_zero] at t;exact t)
  obtain ⟨v3,hwn⟩:∃x,x=put6 v2 (w.heap.size+1) (.slice a1 T1.length cap1) (.int .i64 (i1:Int)) (.int .i64 E1) (.int .i64 o1) (.int .i64 b1) (.int .i64 x1):=⟨_,rfl⟩
  rw [←hwn] at HF2
  have f2:=HF2.out.facts
  dsimp only [Fs,Nes,List.map] at f2
  refine skip_at (w':=v3) rfl rfl rfl (by rw [hwn];unfold put6;clear f2;go_simp) ⟨f2.2.1.1,?_⟩
  clear hwn f HF
  have HF:=HF2
  have f:=f2
  clear HF2 f2
  try simp only [List.setIfInBounds_toArray,List.set_cons_succ,List.set_cons_zero]
  refine wpAnyH_done (by kernel_rfl) ?_ _
  go_wp2_with fail
  exact bodyPost_ret (v:= .agg #[.slice a1 T1.length cap1,.int .i64 (i1:Int),.int .i64 E1,.int .i64 o1,.int .i64 b1,.int .i64 x1]) (by simp [results,Tryz.results166,go_sem,f]) rfl ⟨rfl,HF.out.bl⟩
 ·rw [if_neg h16]
  obtain ⟨a1,cap1,T1,i1,E1,o1,b1,x1,hn⟩:=(St.next ⟨a0,cap0,T0,i0,E0,o0+1,b0,x0⟩).get
  have HN:=Lib.hid hn
  rw [hn]
  have h16b:(o0==16)=false:=by simpa using h16
  have HNX:∀W,Hid (Calls Tryz.prog 56 #[.agg #[.slice a0 T0.length cap0,.int .i64 (i0:Int),.int .i64 E0,.int .i64 (o0+1),.int .i64 b0,.int .i64 x0]] W (Ans (.agg #[.slice a1 T1.length cap1,.int .i64 (i1:Int),.int .i64 E1,.int .i64 o1,.int .i64 b1,.int .i64 x1]) W)):=fun W=>Lib.hid (snext_as W ⟨a0,cap0,T0,i0,E0,o0+1,b0,x0⟩ ⟨a1,cap1,T1,i1,E1,o1,b1,x1⟩ H0.out.i HN)
  have HF0:=HF
  replace HF:=Lib.hid (Fr.start2 w #[.slice a0 T0.length cap0,.int .i64 (i0:Int),.int .i64 E0,.int .i64 (o0+1),.int .i64 b0,.int .i64 x0] #[.slice none 0 0,.int .i64 0,.int .i64 0,.int .i64 0,.int .i64 0,.int .i64 0] 95 95)
  clear hn h16 f
  have f1:=HF0.out.facts
  dsimp only [Fs,Nes,List.map] at f1
  have f:=HF.out.facts
  dsimp only [Fs,Nes,List.map] at f
  unfold St.v
  dsimp only
  go_enter Tryz.func166,Tryz.ntmps166
  go_wp2_with (go_at_call 56;refine (HNX _).out.mono ?_;rintro e w3 ⟨rfl,hb⟩;replace HF:=Lib.hid (HF.out.call hb);clear f f1;have f1:=HF.out.facts;dsimp only [Fs,Nes,List.map] at f1;replace HF:=Lib.hid (by have t:=HF.out.put6 0 rfl (.slice a1 T1.length cap1) (.int .i64 (i1:Int)) (.int .i64 E1) (.int .i64 o1) (.int .i64 b1) (.int .i64 x1);simp only [List.set_cons_zero] at t;exact t);have f:=HF.out.facts;dsimp only [Fs,Nes,List.map] at f;unfold put6 at f;clear hb)
  exact bodyPost_ret (v:= .agg #[.slice a1 T1.length cap1,.int .i64 (i1:Int),.int .i64 E1,.int .i64 o1,.int .i64 b1,.int .i64 x1]) (by simp [results,Tryz.results166,go_sem,f]) rfl ⟨rfl,HF.out.bl⟩
set_option maxRecDepth 100000 in
set_option maxHeartbeats 16000000 in
theorem snumber_any (w:World) (s:St) (h:SW w s) (hlen:s.i≤99999):Calls Tryz.prog 165 #[s.v] w (Ans (.tuple #[s.number.1.v,.int .i64 s.number.2]) w):=by
 unfold St.number
 obtain ⟨bi,hbi⟩:∃b,s.is [45]=b:=⟨_,rfl⟩
 have HI:Hid (s.is (ByteArray.mk #[45]).toList=bi):=Lib.hid (by rw [Lib.toList_data];exact hbi)
 rw [hbi]
 obtain ⟨a0,cap0,T0,i0,E0,o0,b0,x0⟩:=s
 have H0:=Lib.hid h
 have HF:=Lib.hid (Fr.start2 w #[.slice a0 T0.length cap0,.int .i64 (i0:Int),.int .i64 E0,.int .i64 o0,.int .i64 b0,.int .i64 x0] #[.slice none 0 0,.int .i64 0,.int .i64 0,.int .i64 0,.int .i64 0,.int .i64 0] 95 95)
 have f:=HF.out.facts;dsimp only [Fs,Nes,List.map] at f
 clear h hbi
 dsimp only
 cases bi with
 |true=>
  rw [if_pos rfl,if_pos rfl]
  obtain ⟨a1,cap1,T1,i1,E1,o1,b1,x1,hn1⟩:=(St.next ⟨a0,cap0,T0,i0,E0,o0,b0,x0⟩).get
  have HN1:=Lib.hid hn1
  have h1:=H0.out.next (by have:=H0.out.len;have:=hlen;dsimp only at this;omega)
  rw [hn1] at h1⊢
  have H1:=Lib.hid h1
  have hi0:=H0.out.i
  clear hn1 h1
  dsimp only at hi0
  obtain ⟨k,n,tx,at_,ht⟩:=St.pk_get ⟨a1,cap1,T1,i1,E1,o1,b1,x1⟩
  have HT:=Lib.hid ht
  have hn:=H1.out.pk_n
  rw [ht] at hn⊢
  dsimp only at hn⊢
  have hw2:wrap64 (-n)= -n:=by unfold wrap64;omega
  have hw3:wrap64 (-1*n)= -n:=by unfold wrap64;omega
  have hw4:wrap64 (1*n)=n:=by unfold wrap64;omega
  have hw5:IntKind.i64.wrap n=n:=by rw [IntKind.wrap_i64];omega
  have hw6:IntKind.i64.wrap (-n)= -n:=by rw [IntKind.wrap_i64];omega
  clear hn ht hlen
  by_cases hk:k=1
  ·have hk1:(k !=1)=false:=by rw [hk];rfl
   simp only [if_pos hk]
   obtain ⟨a2,cap2,T2,i2,E2,o2,b2,x2,hn⟩:=(St.next ⟨a1,cap1,T1,i1,E1,o1,b1,x1⟩).get
   have HN:=Lib.hid hn
   rw [hn,show (-1:Int)*n= -n by omega]
   clear hn hk
   unfold St.v
   dsimp only
   have HNX:∀W,Hid (Calls Tryz.prog 56 #[.agg #[.slice a1 T1.length cap1,.int .i64 (i1:Int),.int .i64 E1,.int .i64 o1,.int .i64 b1,.int .i64 x1]] W (Ans (.agg #[.slice a2 T2.length cap2,.int .i64 (i2:Int),.int .i64 E2,.int .i64 o2,.int .i64 b2,.int .i64 x2]) W)):=fun W=>Lib.hid (snext_as W ⟨a1,cap1,T1,i1,E1,o1,b1,x1⟩ ⟨a2,cap2,T2,i2,E2,o2,b2,x2⟩ H1.out.i HN)
   go_enter Tryz.func165,Tryz.ntmps165
   go_wp2_with (first
    |(go_at_call 99;refine (sis_as _ ⟨a0,cap0,T0,i0,E0,o0,b0,x0⟩ ⟨#[45]⟩ _ (H0.out.below HF.out.bl) HI).mono ?_;rintro e w2 ⟨rfl,hb⟩;replace HF:=Lib.hid (HF.out.call hb);clear f;have f:=HF.out.facts;dsimp only [Fs,Nes,List.map] at f;clear hb)
    |(go_at_call 56;refine (snext_as _ ⟨a0,cap0,T0,i0,E0,o0,b0,x0⟩ ⟨a1,cap1,T1,i1,E1,o1,b1,x1⟩ hi0 HN1).mono ?_;rintro e w3 ⟨rfl,hb⟩;unfold St.v;dsimp only;replace HF:=Lib.hid (HF.out.call hb);clear f;have f1:=HF.out.facts;dsimp only [Fs,Nes,List.map] at f1;replace HF:=Lib.hid (by have t:=HF.out.put6 1 rfl (.slice a1 T1.length cap1) (.int .i64 (i1:Int)) (.int .i64 E1) (.int .i64 o1) (.int .i64 b1) (.int .i64 x1);simp only [List.set_cons_succ,List.set_cons_zero] at t;exact t);have f:=HF.out.facts;dsimp only [Fs,Nes,List.map] at f;unfold put6 at f;clear hb)
    |(go_at_call 54;refine (peek_as _ ⟨a1,cap1,T1,i1,E1,o1,b1,x1⟩ k n at_ tx (H1.out.below HF.out.bl) HT).mono ?_;rintro e w4 ⟨rfl,hb⟩;replace HF:=Lib.hid (HF.out.call hb);replace HF:=Lib.hid (HF.out.new_ #[.int .i64 k,.int .i64 n,.string tx,.int .i64 at_] 97 (n:=w4.heap.size) (rfl));clear f1;clear f;have f:=HF.out.facts;dsimp only [Fs,Nes,List.map] at f;clear hb))
   obtain ⟨wk,hwk⟩:∃x,x=w4.alloc (.cells #[.int .i64 k,.int .i64 n,.string tx,.int .i64 at_] 97):=⟨_,rfl⟩
   rw [←hwk]
   rw [←hwk] at HF
   clear f hwk
   have f:=HF.out.facts
   dsimp only [Fs,Nes,List.map] at f
   refine wp_region_held (S:=fun w'=>(∀o,w'.cell? ⟨w.heap.size,o,none⟩=#[.slice a1 T1.length cap1,.int .i64 (i1:Int),.int .i64 E1,.int .i64 o1,.int .i64 b1,.int .i64 x1][o]?)∧(∀o,w'.cell? ⟨w4.heap.size,o,none⟩=#[.int .i64 k,.int .i64 n,.string tx,.int .i64 at_][o]?)) (by kernel_rfl) ?_
   obtain ⟨wd,hwd⟩:∃wd:World,wd={wk with drawn:=wk.drawn+1}:=⟨_,rfl⟩
   have hbd:Below wk.heap.size wk wd:=by rw [hwd];exact (Below.refl _ wk).drew
   rw [←hwd]
   clear hwd
   replace HF:=Lib.hid (HF.out.call hbd)
   clear f hbd
   have f:=HF.out.facts
   dsimp only [Fs,Nes,List.map] at f
   refine take_at' (i:=0) 18 (v:= .agg #[.slice a1 T1.length cap1,.int .i64 (i1:Int),.int .i64 E1,.int .i64 o1,.int .i64 b1,.int .i64 x1]) rfl rfl (by kernel_rfl) (by kernel_rfl) (by kernel_rfl) (fun _ _ _ h=>h) (Or.inl ⟨by rfl,fun w' hS=>by have g0:=hS.1;have g1:=hS.2;clear f;go_simp⟩) ⟨f.2.2.1.1,f.1.1⟩ ?_
   refine take_at' (i:=2) 20 (v:= .int .i64 (-1)) rfl rfl (by kernel_rfl) (by kernel_rfl) (by kernel_rfl) (fun _ _ _ h=>h) (Or.inl ⟨by rfl,fun w' hS=>by have g0:=hS.1;have g1:=hS.2;clear f;go_simp⟩) ⟨f.2.2.1.1,f.1.1⟩ ?_
   refine take_at' (i:=3) 21 (v:= .pointer (some ⟨w4.heap.size,1,none⟩)) rfl rfl (by kernel_rfl) (by kernel_rfl) (by kernel_rfl) (fun _ _ _ h=>h) (Or.inl ⟨by rfl,fun w' hS=>by have g0:=hS.1;have g1:=hS.2;clear f;go_simp⟩) ⟨f.2.2.1.1,f.1.1⟩ ?_
   refine take_at' (i:=4) 22 (v:= .int .i64 n) rfl rfl (by kernel_rfl) (by kernel_rfl) (by kernel_rfl) (fun _ _ _ h=>h) (Or.inl ⟨by rfl,fun w' hS=>by have g0:=hS.1;have g1:=hS.2;clear f;go_simp⟩) ⟨f.2.2.1.1,f.1.1⟩ ?_
   refine take_at' (i:=5) 23 (v:= .int .i64 (-n)) rfl rfl (by kernel_rfl) (by kernel_rfl) (by kernel_rfl) (fun _ _ _ h=>h) (Or.inl ⟨by rfl,fun w' hS=>by have g0:=hS.1;have g1:=hS.2;clear f;go_simp⟩) ⟨f.2.2.1.1,f.1.1⟩ ?_
   try simp only [List.setIfInBounds_toArray,List.set_cons_succ,List.set_cons_zero]
   refine wpAnyH_all (rs:=[1]) (by kernel_rfl) (by simp) ?_
   intro i hi
   obtain rfl:i=1:=by simpa using hi
   refine call_at 19 (f:=56) (args:=#[.agg #[.slice a1 T1.length cap1,.int .i64 (i1:Int),.int .i64 E1,.int .i64 o1,.int .i64 b1,.int .i64 x1]]) (w':=wd) rfl rfl rfl (by go_simp) (((HNX _).out).mono ?_)
   rintro e v1 ⟨rfl,hb⟩
   replace HF:=Lib.hid (HF.out.call hb)
   clear f hb
   have f:=HF.out.facts
   dsimp only [Fs,Nes,List.map] at f
   refine ⟨_,rfl,⟨f.2.2.1.1,f.1.1⟩,?_⟩
   try simp only [List.setIfInBounds_toArray,List.set_cons_succ,List.set_cons_zero]
   refine wpAnyH_all (rs:=[6]) (by kernel_rfl) (by simp) ?_
   intro i hi
   obtain rfl:i=6:=by simpa using hi
   have HF2:=Lib.hid (by have t:=HF.out.put6 1 rfl (.slice a2 T2.length cap2) (.int .i64 (i2:Int)) (.int .i64 E2) (.int .i64 o2) (.int .i64 b2) (.int .i64 x2);simp only [List.set_cons_succ,List.set_cons_zero] at t;exact t)
   obtain ⟨v2,hwn⟩:∃x,x=put6 v1 (w.heap.size+1) (.slice a2 T2.length cap2) (.int .i64 (i2:Int)) (.int .i64 E2) (.int .i64 o2) (.int .i64 b2) (.int .i64 x2):=⟨_,rfl⟩
   rw [←hwn] at HF2
   have f2:=HF2.out.facts
   dsimp only [Fs,Nes,List.map] at f2
   refine skip_at (w':=v2) rfl rfl rfl (by rw [hwn];unfold put6;clear f2;go_simp) ⟨⟨f2.2.2.1.1,f2.1.1⟩,?_⟩
   clear hwn f HF
   have HF:=HF2
   have f:=f2
   clear HF2 f2
   try simp only [List.setIfInBounds_toArray,List.set_cons_succ,List.set_cons_zero]
   refine wpAnyH_all (rs:=[7]) (by kernel_rfl) (by simp) ?_
   intro i hi
   obtain rfl:i=7:=by simpa using hi
   refine value_at 3 (v:= .int .i64 (-n)) (w':=v2) rfl rfl rfl (by go_simp) ⟨⟨f.2.2.1.1,f.1.1⟩,?_⟩
   try simp only [List.setIfInBounds_toArray,List.set_cons_succ,List.set_cons_zero]
   refine wpAnyH_done (by kernel_rfl) ?_ _
   go_wp2_with fail
   exact bodyPost_ret (v:= .tuple #[.agg #[.slice a2 T2.length cap2,.int .i64 (i2:Int),.int .i64 E2,.int .i64 o2,.int .i64 b2,.int .i64 x2],.int .i64 (-n)]) (by simp [results,Tryz.results165,go_sem,f]) rfl ⟨rfl,HF.out.bl⟩
  ·have hk1:(k !=1)=true:=by simpa using hk
   simp only [if_neg hk]
   obtain ⟨a2,cap2,T2,i2,E2,o2,b2,x2,hn⟩:=(St.fail ⟨a1,cap1,T1,i1,E1,o1,b1,x1⟩ ⟨⟨k,n,tx.toList⟩,at_⟩ 21).get
   have HN:=Lib.hid hn
   rw [hn]
   clear hn hk
   unfold St.v
   dsimp only
   have HFL:∀W,Hid (Calls Tryz.prog 55 #[.agg #[.slice a1 T1.length cap1,.int .i64 (i1:Int),.int .i64 E1,.int .i64 o1,.int .i64 b1,.int .i64 x1],.agg #[.int .i64 k,.int .i64 n,.string tx,.int .i64 at_],.int .i64 21] W (Ans (.agg #[.slice a2 T2.length cap2,.int .i64 (i2:Int),.int .i64 E2,.int .i64 o2,.int .i64 b2,.int .i64 x2]) W)):=fun W=>Lib.hid (sfail_as W ⟨a1,cap1,T1,i1,E1,o1,b1,x1⟩ ⟨a2,cap2,T2,i2,E2,o2,b2,x2⟩ k n tx at_ 21 HN)
   go_enter Tryz.func165,Tryz.ntmps165
   go_wp2_with (first
    |(go_at_call 99;refine (sis_as _ ⟨a0,cap0,T0,i0,E0,o0,b0,x0⟩ ⟨#[45]⟩ _ (H0.out.below HF.out.bl) HI).mono ?_;rintro e w2 ⟨rfl,hb⟩;replace HF:=Lib.hid (HF.out.call hb);clear f;have f:=HF.out.facts;dsimp only [Fs,Nes,List.map] at f;clear hb)
    |(go_at_call 56;refine (snext_as _ ⟨a0,cap0,T0,i0,E0,o0,b0,x0⟩ ⟨a1,cap1,T1,i1,E1,o1,b1,x1⟩ hi0 HN1).mono ?_;rintro e w3 ⟨rfl,hb⟩;unfold St.v;dsimp only;replace HF:=Lib.hid (HF.out.call hb);clear f;have f1:=HF.out.facts;dsimp only [Fs,Nes,List.map] at f1;replace HF:=Lib.hid (by have t:=HF.out.put6 1 rfl (.slice a1 T1.length cap1) (.int .i64 (i1:Int)) (.int .i64 E1) (.int .i64 o1) (.int .i64 b1) (.int .i64 x1);simp only [List.set_cons_succ,List.set_cons_zero] at t;exact t);have f:=HF.out.facts;dsimp only [Fs,Nes,List.map] at f;unfold put6 at f;clear hb)
    |(go_at_call 54;refine (peek_as _ ⟨a1,cap1,T1,i1,E1,o1,b1,x1⟩ k n at_ tx (H1.out.below HF.out.bl) HT).mono ?_;rintro e w4 ⟨rfl,hb⟩;replace HF:=Lib.hid (HF.out.call hb);replace HF:=Lib.hid (HF.out.new_ #[.int .i64 k,.int .i64 n,.string tx,.int .i64 at_] 97 (n:=w4.heap.size) (rfl));clear f1;clear f;have f:=HF.out.facts;dsimp only [Fs,Nes,List.map] at f;clear hb)
    |(go_at_call 55;refine (HFL _).out.mono ?_;rintro e w5 ⟨rfl,hb⟩;replace HF:=Lib.hid (HF.out.call hb);clear f;have f1:=HF.out.facts;dsimp only [Fs,Nes,List.map] at f1;replace HF:=Lib.hid (by have t:=HF.out.put6 1 rfl (.slice a2 T2.length cap2) (.int .i64 (i2:Int)) (.int .i64 E2) (.int .i64 o2) (.int .i64 b2) (.int .i64 x2);simp only [List.set_cons_succ,List.set_cons_zero] at t;exact t);have f:=HF.out.facts;dsimp only [Fs,Nes,List.map] at f;unfold put6 at f;clear hb))
   exact bodyPost_ret (v:= .tuple #[.agg #[.slice a2 T2.length cap2,.int .i64 (i2:Int),.int .i64 E2,.int .i64 o2,.int .i64 b2,.int .i64 x2],.int .i64 0]) (by simp [results,Tryz.results165,go_sem,f]) rfl ⟨rfl,HF.out.bl⟩
 |false=>
  simp only [Bool.false_eq_true,if_false]
  obtain ⟨k,n,tx,at_,ht⟩:=St.pk_get ⟨a0,cap0,T0,i0,E0,o0,b0,x0⟩
  have HT:=Lib.hid ht
  have hn:=H0.out.pk_n
  rw [ht] at hn⊢
  dsimp only at hn⊢
  have hw2:wrap64 (-n)= -n:=by unfold wrap64;omega
  have hw3:wrap64 (-1*n)= -n:=by unfold wrap64;omega
  have hw4:wrap64 (1*n)=n:=by unfold wrap64;omega
  have hw5:IntKind.i64.wrap n=n:=by rw [IntKind.wrap_i64];omega
  have hw6:IntKind.i64.wrap (-n)= -n:=by rw [IntKind.wrap_i64];omega
  clear hn ht hlen
  by_cases hk:k=1
  ·have hk1:(k !=1)=false:=by rw [hk];rfl
   simp only [if_pos hk]
   obtain ⟨a2,cap2,T2,i2,E2,o2,b2,x2,hn⟩:=(St.next ⟨a0,cap0,T0,i0,E0,o0,b0,x0⟩).get
   have HN:=Lib.hid hn
   rw [hn,show (1:Int)*n=n by omega]
   clear hn hk
   unfold St.v
   dsimp only
   have HNX:∀W,Hid (Calls Tryz.prog 56 #[.agg #[.slice a0 T0.length cap0,.int .i64 (i0:Int),.int .i64 E0,.int .i64 o0,.int .i64 b0,.int .i64 x0]] W (Ans (.agg #[.slice a2 T2.length cap2,.int .i64 (i2:Int),.int .i64 E2,.int .i64 o2,.int .i64 b2,.int .i64 x2]) W)):=fun W=>Lib.hid (snext_as W ⟨a0,cap0,T0,i0,E0,o0,b0,x0⟩ ⟨a2,cap2,T2,i2,E2,o2,b2,x2⟩ H0.out.i HN)
   go_enter Tryz.func165,Tryz.ntmps165
   go_wp2_with (first
    |(go_at_call 99;refine (sis_as _ ⟨a0,cap0,T0,i0,E0,o0,b0,x0⟩ ⟨#[45]⟩ _ (H0.out.below HF.out.bl) HI).mono ?_;rintro e w2 ⟨rfl,hb⟩;replace HF:=Lib.hid (HF.out.call hb);clear f;have f:=HF.out.facts;dsimp only [Fs,Nes,List.map] at f;clear hb)
    |(go_at_call 54;refine (peek_as _ ⟨a0,cap0,T0,i0,E0,o0,b0,x0⟩ k n at_ tx (H0.out.below HF.out.bl) HT).mono ?_;rintro e w4 ⟨rfl,hb⟩;replace HF:=Lib.hid (HF.out.call hb);replace HF:=Lib.hid (HF.out.new_ #[.int .i64 k,.int .i64 n,.string tx,.int .i64 at_] 97 (n:=w4.heap.size) (rfl));clear f;have f:=HF.out.facts;dsimp only [Fs,Nes,List.map] at f;clear hb))
   obtain ⟨wk,hwk⟩:∃x,x=w4.alloc (.cells #[.int .i64 k,.int .i64 n,.string tx,.int .i64 at_] 97):=⟨_,rfl⟩
   rw [←hwk]
   rw [←hwk] at HF
   clear f hwk
   have f:=HF.out.facts
   dsimp only [Fs,Nes,List.map] at f
   refine wp_region_held (S:=fun w'=>(∀o,w'.cell? ⟨w.heap.size,o,none⟩=#[.slice a0 T0.length cap0,.int .i64 (i0:Int),.int .i64 E0,.int .i64 o0,.int .i64 b0,.int .i64 x0][o]?)∧(∀o,w'.cell? ⟨w4.heap.size,o,none⟩=#[.int .i64 k,.int .i64 n,.string tx,.int .i64 at_][o]?)) (by kernel_rfl) ?_
   obtain ⟨wd,hwd⟩:∃wd:World,wd={wk with drawn:=wk.drawn+1}:=⟨_,rfl⟩
   have hbd:Below wk.heap.size wk wd:=by rw [hwd];exact (Below.refl _ wk).drew
   rw [←hwd]
   clear hwd
   replace HF:=Lib.hid (HF.out.call hbd)
   clear f hbd
   have f:=HF.out.facts
   dsimp only [Fs,Nes,List.map] at f
   refine take_at' (i:=0) 18 (v:= .agg #[.slice a0 T0.length cap0,.int .i64 (i0:Int),.int .i64 E0,.int .i64 o0,.int .i64 b0,.int .i64 x0]) rfl rfl (by kernel_rfl) (by kernel_rfl) (by kernel_rfl) (fun _ _ _ h=>h) (Or.inl ⟨by rfl,fun w' hS=>by have g0:=hS.1;have g1:=hS.2;clear f;go_simp⟩) ⟨f.2.2.1.1,f.1.1⟩ ?_
   refine take_at' (i:=2) 20 (v:= .int .i64 1) rfl rfl (by kernel_rfl) (by kernel_rfl) (by kernel_rfl) (fun _ _ _ h=>h) (Or.inl ⟨by rfl,fun w' hS=>by have g0:=hS.1;have g1:=hS.2;clear f;go_simp⟩) ⟨f.2.2.1.1,f.1.1⟩ ?_
   refine take_at' (i:=3) 21 (v:= .pointer (some ⟨w4.heap.size,1,none⟩)) rfl rfl (by kernel_rfl) (by kernel_rfl) (by kernel_rfl) (fun _ _ _ h=>h) (Or.inl ⟨by rfl,fun w' hS=>by have g0:=hS.1;have g1:=hS.2;clear f;go_simp⟩) ⟨f.2.2.1.1,f.1.1⟩ ?_
   refine take_at' (i:=4) 22 (v:= .int .i64 n) rfl rfl (by kernel_rfl) (by kernel_rfl) (by kernel_rfl) (fun _ _ _ h=>h) (Or.inl ⟨by rfl,fun w' hS=>by have g0:=hS.1;have g1:=hS.2;clear f;go_simp⟩) ⟨f.2.2.1.1,f.1.1⟩ ?_
   refine take_at' (i:=5) 23 (v:= .int .i64 (n)) rfl rfl (by kernel_rfl) (by kernel_rfl) (by kernel_rfl) (fun _ _ _ h=>h) (Or.inl ⟨by rfl,fun w' hS=>by have g0:=hS.1;have g1:=hS.2;clear f;go_simp⟩) ⟨f.2.2.1.1,f.1.1⟩ ?_
   try simp only [List.setIfInBounds_toArray,List.set_cons_succ,List.set_cons_zero]
   refine wpAnyH_all (rs:=[1]) (by kernel_rfl) (by simp) ?_
   intro i hi
   obtain rfl:i=1:=by simpa using hi
   refine call_at 19 (f:=56) (args:=#[.agg #[.slice a0 T0.length cap0,.int .i64 (i0:Int),.int .i64 E0,.int .i64 o0,.int .i64 b0,.int .i64 x0]]) (w':=wd) rfl rfl rfl (by go_simp) (((HNX _).out).mono ?_)
   rintro e v1 ⟨rfl,hb⟩
   replace HF:=Lib.hid (HF.out.call hb)
   clear f hb
   have f:=HF.out.facts
   dsimp only [Fs,Nes,List.map] at f
   refine ⟨_,rfl,⟨f.2.2.1.1,f.1.1⟩,?_⟩
   try simp only [List.setIfInBounds_toArray,List.set_cons_succ,List.set_cons_zero]
   refine wpAnyH_all (rs:=[6]) (by kernel_rfl) (by simp) ?_
   intro i hi
   obtain rfl:i=6:=by simpa using hi
   have HF2:=Lib.hid (by have t:=HF.out.put6 1 rfl (.slice a2 T2.length cap2) (.int .i64 (i2:Int)) (.int .i64 E2) (.int .i64 o2) (.int .i64 b2) (.int .i64 x2);simp only [List.set_cons_succ,List.set_cons_zero] at t;exact t)
   obtain ⟨v2,hwn⟩:∃x,x=put6 v1 (w.heap.size+1) (.slice a2 T2.length cap2) (.int .i64 (i2:Int)) (.int .i64 E2) (.int .i64 o2) (.int .i64 b2) (.int .i64 x2):=⟨_,rfl⟩
   rw [←hwn] at HF2
   have f2:=HF2.out.facts
   dsimp only [Fs,Nes,List.map] at f2
   refine skip_at (w':=v2) rfl rfl rfl (by rw [hwn];unfold put6;clear f2;go_simp) ⟨⟨f2.2.2.1.1,f2.1.1⟩,?_⟩
   clear hwn f HF
   have HF:=HF2
   have f:=f2
   clear HF2 f2
   try simp only [List.setIfInBounds_toArray,List.set_cons_succ,List.set_cons_zero]
   refine wpAnyH_all (rs:=[7]) (by kernel_rfl) (by simp) ?_
   intro i hi
   obtain rfl:i=7:=by simpa using hi
   refine value_at 3 (v:= .int .i64 (n)) (w':=v2) rfl rfl rfl (by go_simp) ⟨⟨f.2.2.1.1,f.1.1⟩,?_⟩
   try simp only [List.setIfInBounds_toArray,List.set_cons_succ,List.set_cons_zero]
   refine wpAnyH_done (by kernel_rfl) ?_ _
   go_wp2_with fail
   exact bodyPost_ret (v:= .tuple #[.agg #[.slice a2 T2.length cap2,.int .i64 (i2:Int),.int .i64 E2,.int .i64 o2,.int .i64 b2,.int .i64 x2],.int .i64 (n)]) (by simp [results,Tryz.results165,go_sem,f]) rfl ⟨rfl,HF.out.bl⟩
  ·have hk1:(k !=1)=true:=by simpa using hk
   simp only [if_neg hk]
   obtain ⟨a2,cap2,T2,i2,E2,o2,b2,x2,hn⟩:=(St.fail ⟨a0,cap0,T0,i0,E0,o0,b0,x0⟩ ⟨⟨k,n,tx.toList⟩,at_⟩ 21).get
   have HN:=Lib.hid hn
   rw [hn]
   clear hn hk
   unfold St.v
   dsimp only
   have HFL:∀W,Hid (Calls Tryz.prog 55 #[.agg #[.slice a0 T0.length cap0,.int .i64 (i0:Int),.int .i64 E0,.int .i64 o0,.int .i64 b0,.int .i64 x0],.agg #[.int .i64 k,.int .i64 n,.string tx,.int .i64 at_],.int .i64 21] W (Ans (.agg #[.slice a2 T2.length cap2,.int .i64 (i2:Int),.int .i64 E2,.int .i64 o2,.int .i64 b2,.int .i64 x2]) W)):=fun W=>Lib.hid (sfail_as W ⟨a0,cap0,T0,i0,E0,o0,b0,x0⟩ ⟨a2,cap2,T2,i2,E2,o2,b2,x2⟩ k n tx at_ 21 HN)
   go_enter Tryz.func165,Tryz.ntmps165
   go_wp2_with (first
    |(go_at_call 99;refine (sis_as _ ⟨a0,cap0,T0,i0,E0,o0,b0,x0⟩ ⟨#[45]⟩ _ (H0.out.below HF.out.bl) HI).mono ?_;rintro e w2 ⟨rfl,hb⟩;replace HF:=Lib.hid (HF.out.call hb);clear f;have f:=HF.out.facts;dsimp only [Fs,Nes,List.map] at f;clear hb)
    |(go_at_call 54;refine (peek_as _ ⟨a0,cap0,T0,i0,E0,o0,b0,x0⟩ k n at_ tx (H0.out.below HF.out.bl) HT).mono ?_;rintro e w4 ⟨rfl,hb⟩;replace HF:=Lib.hid (HF.out.call hb);replace HF:=Lib.hid (HF.out.new_ #[.int .i64 k,.int .i64 n,.string tx,.int .i64 at_] 97 (n:=w4.heap.size) (rfl));clear f;have f:=HF.out.facts;dsimp only [Fs,Nes,List.map] at f;clear hb)
    |(go_at_call 55;refine (HFL _).out.mono ?_;rintro e w5 ⟨rfl,hb⟩;replace HF:=Lib.hid (HF.out.call hb);clear f;have f1:=HF.out.facts;dsimp only [Fs,Nes,List.map] at f1;replace HF:=Lib.hid (by have t:=HF.out.put6 1 rfl (.slice a2 T2.length cap2) (.int .i64 (i2:Int)) (.int .i64 E2) (.int .i64 o2) (.int .i64 b2) (.int .i64 x2);simp only [List.set_cons_succ,List.set_cons_zero] at t;exact t);have f:=HF.out.facts;dsimp only [Fs,Nes,List.map] at f;unfold put6 at f;clear hb))
   exact bodyPost_ret (v:= .tuple #[.agg #[.slice a2 T2.length cap2,.int .i64 (i2:Int),.int .i64 E2,.int .i64 o2,.int .i64 b2,.int .i64 x2],.int .i64 0]) (by simp [results,Tryz.results165,go_sem,f]) rfl ⟨rfl,HF.out.bl⟩
theorem nameB_is (E:Int) (L:List Tok):nameB L=((pk E L).x.k==2&&Nm.rightL (pk E L).x.t):=by
 cases L with
 |nil=>rfl
 |cons t L=>rfl
set_option maxRecDepth 100000 in
set_option maxHeartbeats 16000000 in
theorem snamed_any (w:World) (s:St) (h:SW w s):Calls Tryz.prog 57 #[s.v] w (Ans (.tuple #[s.named.1.v,.string s.named.2]) w):=by
 obtain ⟨k,n,tx,at_,ht⟩:=s.pk_get
 have HT:=Lib.hid ht
 have HTZ:Hid (tx.size≤140737488355328):=Lib.hid (by have:=h.pk_n.2.2;rw [ht] at this;dsimp only at this;rw [←bs_size,Lx.bs_of] at this;omega)
 unfold St.named
 rw [nameB_is s.E,ht,show Ps.pk s.E s.L=_ from ht]
 dsimp only
 rw [Lx.bs_of]
 obtain ⟨a0,cap0,T0,i0,E0,o0,b0,x0⟩:=s
 have H0:=Lib.hid h
 have HF:=Lib.hid (Fr.start2 w #[.slice a0 T0.length cap0,.int .i64 (i0:Int),.int .i64 E0,.int .i64 o0,.int .i64 b0,.int .i64 x0] #[.slice none 0 0,.int .i64 0,.int .i64 0,.int .i64 0,.int .i64 0,.int .i64 0] 95 95)
 have f:=HF.out.facts;dsimp only [Fs,Nes,List.map] at f
 clear h ht
 by_cases hk:k=2
 ·have hk2:(k !=2)=false:=by rw [hk];rfl
  rw [show (k==2)=true by rw [hk];rfl,Bool.true_and]
  clear hk
  cases hr:Nm.rightL tx.toList with
  |true=>
   have HRT:=Lib.hid hr
   clear hr
   rw [if_pos rfl]
   obtain ⟨a1,cap1,T1,i1,E1,o1,b1,x1,hn⟩:=(St.next ⟨a0,cap0,T0,i0,E0,o0,b0,x0⟩).get
   have HN:=Lib.hid hn
   rw [hn]
   clear hn
   unfold St.v
   dsimp only
   have HNX:∀W,Hid (Calls Tryz.prog 56 #[.agg #[.slice a0 T0.length cap0,.int .i64 (i0:Int),.int .i64 E0,.int .i64 o0,.int .i64 b0,.int .i64 x0]] W (Ans (.agg #[.slice a1 T1.length cap1,.int .i64 (i1:Int),.int .i64 E1,.int .i64 o1,.int .i64 b1,.int .i64 x1]) W)):=fun W=>Lib.hid (snext_as W ⟨a0,cap0,T0,i0,E0,o0,b0,x0⟩ ⟨a1,cap1,T1,i1,E1,o1,b1,x1⟩ H0.out.i HN)
   go_enter Tryz.func57,Tryz.ntmps57
   go_wp2_with (first
    |(go_at_call 54;refine (peek_as _ ⟨a0,cap0,T0,i0,E0,o0,b0,x0⟩ k n at_ tx (H0.out.below HF.out.bl) HT).mono ?_;rintro e w4 ⟨rfl,hb⟩;replace HF:=Lib.hid (HF.out.call hb);replace HF:=Lib.hid (HF.out.new_ #[.int .i64 k,.int .i64 n,.string tx,.int .i64 at_] 97 (n:=w4.heap.size) (rfl));clear f;have f:=HF.out.facts;dsimp only [Fs,Nes,List.map] at f;clear hb)
    |(go_at_call 72;refine (Nm.rright_as tx true _ HTZ.out HRT).mono ?_;rintro e w7 ⟨rfl,rfl⟩))
   obtain ⟨wk,hwk⟩:∃x,x=w4.alloc (.cells #[.int .i64 k,.int .i64 n,.string tx,.int .i64 at_] 97):=⟨_,rfl⟩
   rw [←hwk]
   rw [←hwk] at HF
   clear f hwk
   have f:=HF.out.facts
   dsimp only [Fs,Nes,List.map] at f
   refine wp_region_held (S:=fun w'=>(∀o,w'.cell? ⟨w.heap.size,o,none⟩=#[.slice a0 T0.length cap0,.int .i64 (i0:Int),.int .i64 E0,.int .i64 o0,.int .i64 b0,.int .i64 x0][o]?)∧(∀o,w'.cell? ⟨w4.heap.size,o,none⟩=#[.int .i64 k,.int .i64 n,.string tx,.int .i64 at_][o]?)) (by kernel_rfl) ?_
   obtain ⟨wd,hwd⟩:∃wd:World,wd={wk with drawn:=wk.drawn+1}:=⟨_,rfl⟩
   have hbd:Below wk.heap.size wk wd:=by rw [hwd];exact (Below.refl _ wk).drew
   rw [←hwd]
   clear hwd
   replace HF:=Lib.hid (HF.out.call hbd)
   clear f hbd
   have f:=HF.out.facts
   dsimp only [Fs,Nes,List.map] at f
   refine take_at' (i:=0) 19 (v:= .agg #[.slice a0 T0.length cap0,.int .i64 (i0:Int),.int .i64 E0,.int .i64 o0,.int .i64 b0,.int .i64 x0]) rfl rfl (by kernel_rfl) (by kernel_rfl) (by kernel_rfl) (fun _ _ _ h=>h) (Or.inl ⟨by rfl,fun w' hS=>by have g0:=hS.1;have g1:=hS.2;clear f;go_simp⟩) ⟨f.2.2.1.1,f.1.1⟩ ?_
   refine take_at' (i:=2) 21 (v:= .pointer (some ⟨w4.heap.size,2,none⟩)) rfl rfl (by kernel_rfl) (by kernel_rfl) (by kernel_rfl) (fun _ _ _ h=>h) (Or.inl ⟨by rfl,fun w' hS=>by have g0:=hS.1;have g1:=hS.2;clear f;go_simp⟩) ⟨f.2.2.1.1,f.1.1⟩ ?_
   refine take_at' (i:=3) 22 (v:= .string tx) rfl rfl (by kernel_rfl) (by kernel_rfl) (by kernel_rfl) (fun _ _ _ h=>h) (Or.inl ⟨by rfl,fun w' hS=>by have g0:=hS.1;have g1:=hS.2;clear f;go_simp⟩) ⟨f.2.2.1.1,f.1.1⟩ ?_
   try simp only [List.setIfInBounds_toArray,List.set_cons_succ,List.set_cons_zero]
   refine wpAnyH_all (rs:=[1]) (by kernel_rfl) (by simp) ?_
   intro i hi
   obtain rfl:i=1:=by simpa using hi
   refine call_at 20 (f:=56) (args:=#[.agg #[.slice a0 T0.length cap0,.int .i64 (i0:Int),.int .i64 E0,.int .i64 o0,.int .i64 b0,.int .i64 x0]]) (w':=wd) rfl rfl rfl (by go_simp) (((HNX _).out).mono ?_)
   rintro e v1 ⟨rfl,hb⟩
   replace HF:=Lib.hid (HF.out.call hb)
   clear f hb
   have f:=HF.out.facts
   dsimp only [Fs,Nes,List.map] at f
   refine ⟨_,rfl,⟨f.2.2.1.1,f.1.1⟩,?_⟩
   try simp only [List.setIfInBounds_toArray,List.set_cons_succ,List.set_cons_zero]
   refine wpAnyH_all (rs:=[4]) (by kernel_rfl) (by simp) ?_
   intro i hi
   obtain rfl:i=4:=by simpa using hi
   have HF2:=Lib.hid (by have t:=HF.out.put6 1 rfl (.slice a1 T1.length cap1) (.int .i64 (i1:Int)) (.int .i64 E1) (.int .i64 o1) (.int .i64 b1) (.int .i64 x1);simp only [List.set_cons_succ,List.set_cons_zero] at t;exact t)
   obtain ⟨v2,hwn⟩:∃x,x=put6 v1 (w.heap.size+1) (.slice a1 T1.length cap1) (.int .i64 (i1:Int)) (.int .i64 E1) (.int .i64 o1) (.int .i64 b1) (.int .i64 x1):=⟨_,rfl⟩
   rw [←hwn] at HF2
   have f2:=HF2.out.facts
   dsimp only [Fs,Nes,List.map] at f2
   refine skip_at (w':=v2) rfl rfl rfl (by rw [hwn];unfold put6;clear f2;go_simp) ⟨⟨f2.2.2.1.1,f2.1.1⟩,?_⟩
   clear hwn f HF
   have HF:=HF2
   have f:=f2
   clear HF2 f2
   try simp only [List.setIfInBounds_toArray,List.set_cons_succ,List.set_cons_zero]
   refine wpAnyH_all (rs:=[5]) (by kernel_rfl) (by simp) ?_
   intro i hi
   obtain rfl:i=5:=by simpa using hi
   refine value_at 3 (v:= .string tx) (w':=v2) rfl rfl rfl (by go_simp) ⟨⟨f.2.2.1.1,f.1.1⟩,?_⟩
   try simp only [List.setIfInBounds_toArray,List.set_cons_succ,List.set_cons_zero]
   refine wpAnyH_done (by kernel_rfl) ?_ _
   go_wp2_with fail
   exact bodyPost_ret (v:= .tuple #[.agg #[.slice a1 T1.length cap1,.int .i64 (i1:Int),.int .i64 E1,.int .i64 o1,.int .i64 b1,.int .i64 x1],.string tx]) (by simp [results,Tryz.results57,go_sem,f]) rfl ⟨rfl,HF.out.bl⟩
  |false=>
   have HRT:=Lib.hid hr
   clear hr
   rw [if_neg (by decide)]
   obtain ⟨a1,cap1,T1,i1,E1,o1,b1,x1,hn⟩:=(St.fail ⟨a0,cap0,T0,i0,E0,o0,b0,x0⟩ ⟨⟨k,n,tx.toList⟩,at_⟩ 21).get
   have HN:=Lib.hid hn
   rw [hn]
   clear hn
   unfold St.v
   dsimp only
   have HFL:∀W,Hid (Calls Tryz.prog 55 #[.agg #[.slice a0 T0.length cap0,.int .i64 (i0:Int),.int .i64 E0,.int .i64 o0,.int .i64 b0,.int .i64 x0],.agg #[.int .i64 k,.int .i64 n,.string tx,.int .i64 at_],.int .i64 21] W (Ans (.agg #[.slice a1 T1.length cap1,.int .i64 (i1:Int),.int .i64 E1,.int .i64 o1,.int .i64 b1,.int .i64 x1]) W)):=fun W=>Lib.hid (sfail_as W ⟨a0,cap0,T0,i0,E0,o0,b0,x0⟩ ⟨a1,cap1,T1,i1,E1,o1,b1,x1⟩ k n tx at_ 21 HN)
   go_enter Tryz.func57,Tryz.ntmps57
   go_wp2_with (first
    |(go_at_call 54;refine (peek_as _ ⟨a0,cap0,T0,i0,E0,o0,b0,x0⟩ k n at_ tx (H0.out.below HF.out.bl) HT).mono ?_;rintro e w4 ⟨rfl,hb⟩;replace HF:=Lib.hid (HF.out.call hb);replace HF:=Lib.hid (HF.out.new_ #[.int .i64 k,.int .i64 n,.string tx,.int .i64 at_] 97 (n:=w4.heap.size) (rfl));clear f;have f:=HF.out.facts;dsimp only [Fs,Nes,List.map] at f;clear hb)
    |(go_at_call 72;refine (Nm.rright_as tx false _ HTZ.out HRT).mono ?_;rintro e w7 ⟨rfl,rfl⟩)
    |(go_at_call 55;refine (HFL _).out.mono ?_;rintro e w5 ⟨rfl,hb⟩;replace HF:=Lib.hid (HF.out.call hb);clear f;have f1:=HF.out.facts;dsimp only [Fs,Nes,List.map] at f1;replace HF:=Lib.hid (by have t:=HF.out.put6 1 rfl (.slice a1 T1.length cap1) (.int .i64 (i1:Int)) (.int .i64 E1) (.int .i64 o1) (.int .i64 b1) (.int .i64 x1);simp only [List.set_cons_succ,List.set_cons_zero] at t;exact t);have f:=HF.out.facts;dsimp only [Fs,Nes,List.map] at f;unfold put6 at f;clear hb))
   exact bodyPost_ret (v:= .tuple #[.agg #[.slice a1 T1.length cap1,.int .i64 (i1:Int),.int .i64 E1,.int .i64 o1,.int .i64 b1,.int .i64 x1],.string ⟨#[]⟩]) (by simp [results,Tryz.results57,go_sem,f]) rfl ⟨rfl,HF.out.bl⟩
 ·have hk2:(k !=2)=true:=by simpa using hk
  rw [show (k==2)=false by simpa using hk,Bool.false_and,if_neg (by decide)]
  clear hk
  obtain ⟨a1,cap1,T1,i1,E1,o1,b1,x1,hn⟩:=(St.fail ⟨a0,cap0,T0,i0,E0,o0,b0,x0⟩ ⟨⟨k,n,tx.toList⟩,at_⟩ 21).get
  have HN:=Lib.hid hn
  rw [hn]
  clear hn
  unfold St.v
  dsimp only
  have HFL:∀W,Hid (Calls Tryz.prog 55 #[.agg #[.slice a0 T0.length cap0,.int .i64 (i0:Int),.int .i64 E0,.int .i64 o0,.int .i64 b0,.int .i64 x0],.agg #[.int .i64 k,.int .i64 n,.string tx,.int .i64 at_],.int .i64 21] W (Ans (.agg #[.slice a1 T1.length cap1,.int .i64 (i1:Int),.int .i64 E1,.int .i64 o1,.int .i64 b1,.int .i64 x1]) W)):=fun W=>Lib.hid (sfail_as W ⟨a0,cap0,T0,i0,E0,o0,b0,x0⟩ ⟨a1,cap1,T1,i1,E1,o1,b1,x1⟩ k n tx at_ 21 HN)
  go_enter Tryz.func57,Tryz.ntmps57
  go_wp2_with (first
   |(go_at_call 54;refine (peek_as _ ⟨a0,cap0,T0,i0,E0,o0,b0,x0⟩ k n at_ tx (H0.out.below HF.out.bl) HT).mono ?_;rintro e w4 ⟨rfl,hb⟩;replace HF:=Lib.hid (HF.out.call hb);replace HF:=Lib.hid (HF.out.new_ #[.int .i64 k,.int .i64 n,.string tx,.int .i64 at_] 97 (n:=w4.heap.size) (rfl));clear f;have f:=HF.out.facts;dsimp only [Fs,Nes,List.map] at f;clear hb)
   |(go_at_call 55;refine (HFL _).out.mono ?_;rintro e w5 ⟨rfl,hb⟩;replace HF:=Lib.hid (HF.out.call hb);clear f;have f1:=HF.out.facts;dsimp only [Fs,Nes,List.map] at f1;replace HF:=Lib.hid (by have t:=HF.out.put6 1 rfl (.slice a1 T1.length cap1) (.int .i64 (i1:Int)) (.int .i64 E1) (.int .i64 o1) (.int .i64 b1) (.int .i64 x1);simp only [List.set_cons_succ,List.set_cons_zero] at t;exact t);have f:=HF.out.facts;dsimp only [Fs,Nes,List.map] at f;unfold put6 at f;clear hb))
  exact bodyPost_ret (v:= .tuple #[.agg #[.slice a1 T1.length cap1,.int .i64 (i1:Int),.int .i64 E1,.int .i64 o1,.int .i64 b1,.int .i64 x1],.string ⟨#[]⟩]) (by simp [results,Tryz.results57,go_sem,f]) rfl ⟨rfl,HF.out.bl⟩
end Go.Proofs.YtkfihhagcimcmaaGreatDoor.Ps
namespace Go.Proofs.YtkfihhagcimcmaaGreatDoor.Ps
open Go.RowKit
theorem has_drop {L:List PX} {s:ByteArray} {k:Nat} (hk:k<L.length):hasB (L.drop k) s=((L[k].1.toList==s.toList)||hasB (L.drop (k+1)) s):=by
 rw [List.drop_eq_getElem_cons hk];rfl
set_option maxRecDepth 100000 in
set_option maxHeartbeats 2000000 in
theorem shas_any (L:List PX) (s:ByteArray) (a:Option Addr) (n c:Nat) (w:World) (hn:n=L.length) (hm:n≤1000000) (hL:PRow w a L):Calls Tryz.prog 205 #[.slice a n c,.string s] w (BoolA (hasB L s) w):=by
 have HL:=Lib.hid hL
 have HN:=Lib.hid hn
 obtain ⟨r,hr⟩:∃r,hasB L s=r:=⟨_,rfl⟩
 have HR:=Lib.hid hr
 rw [hr]
 clear hL hn hr
 go_enter Tryz.func205,Tryz.ntmps205
 go_wp2_with fail
 go_loopw [5] (fun i wr=>∃k:Nat,k≤n∧i= .int .i64 (k:Int)∧Hid (hasB (L.drop k) s=r)∧Hid (Below w.heap.size w wr)) (fun i _=>n-(intOf i).toNat)
 case atStart=>exact ⟨0,Nat.zero_le _,rfl,HR,Lib.hid (Below.refl _ _)⟩
 case round=>
  obtain ⟨k,hk,rfl,hR,hB⟩:=hrel
  rename World=>wr
  by_cases hlt:k<n
  ·obtain ⟨b,off,rfl,lt,h0,h1⟩:=(HL.out.below hB.out) k (by rw [←HN.out];exact hlt)
   have hd:=has_drop (s:=s) (show k<L.length by rw [←HN.out];exact hlt)
   rw [hR.out] at hd
   generalize L[k]'(by rw [←HN.out];exact hlt)=y at*
   cases he:(y.1.toList==s.toList) with
   |true=>
    rw [he] at hd
    have HRR:Hid (r=true):=Lib.hid (by simpa using hd)
    clear hd h1 HL hR
    go_wp2_with fail
    go_ret
    exact ⟨congrArg (fun b=>Ending.returned (.bool b)) HRR.out.symm,hB.out⟩
   |false=>
    rw [he] at hd
    have HRR:Hid (hasB (L.drop (k+1)) s=r):=Lib.hid (by simpa using hd.symm)
    clear hd h1 hR
    go_wp2_with fail
    go_roundw
    case rel=>exact ⟨k+1,by omega,by go_num,HRR,hB⟩
    case measure=>simp [intOf];omega
  ·have HRR:Hid (r=false):=Lib.hid (by
    have h1:=hR.out
    rw [List.drop_eq_nil_of_le (by have:=HN.out;omega)] at h1
    exact h1.symm)
   clear hR
   go_wp2_with fail
   go_ret
   exact ⟨congrArg (fun b=>Ending.returned (.bool b)) HRR.out.symm,hB.out⟩
end Go.Proofs.YtkfihhagcimcmaaGreatDoor.Ps
namespace Go.Proofs.YtkfihhagcimcmaaGreatDoor.Ps
open Go.RowKit
open Lx (bl_alloc bl_step)
def PutAt (L R:List PX) (y:PX) (k:Nat) (b:Bool) (out:List PX):Prop:=out.length=(if b then k+1 else k)∧(if b then out++L.drop k else out++putP (L.drop k) y)=R
theorem PutAt.start (L:List PX) (y:PX):PutAt L (putP L y) y 0 false []:=⟨rfl,rfl⟩
section
variable {L R out:List PX} {y:PX} {k:Nat} {b:Bool} (h:PutAt L R y k b out)
include h
theorem PutAt.later (hb:b=true) (hk:k<L.length):PutAt L R y (k+1) true (out++[L[k]]):=by
 subst hb
 obtain ⟨h1,h2⟩:=h
 rw [if_pos rfl] at h1 h2
 refine ⟨by rw [List.length_append,h1];rfl,?_⟩
 rw [if_pos rfl,←h2,List.append_assoc,List.drop_eq_getElem_cons hk];rfl
theorem PutAt.here (hb:b=false) (hk:k<L.length) (hl:Op.bytesLess y.1.toList L[k].1.toList=true):PutAt L R y (k+1) true (out++[y]++[L[k]]):=by
 subst hb
 obtain ⟨h1,h2⟩:=h
 rw [if_neg (by decide)] at h1 h2
 refine ⟨by rw [List.length_append,List.length_append,h1];rfl,?_⟩
 rw [if_pos rfl,←h2,List.append_assoc,List.append_assoc,List.drop_eq_getElem_cons hk,putP,if_pos hl];rfl
theorem PutAt.past (hb:b=false) (hk:k<L.length) (hl:Op.bytesLess y.1.toList L[k].1.toList=false):PutAt L R y (k+1) false (out++[L[k]]):=by
 subst hb
 obtain ⟨h1,h2⟩:=h
 rw [if_neg (by decide)] at h1 h2
 refine ⟨by rw [List.length_append,h1];rfl,?_⟩
 rw [if_neg (by decide),←h2,List.append_assoc,List.drop_eq_getElem_cons hk,putP,if_neg (by rw [hl];decide)];rfl
theorem PutAt.done (hb:b=true) (hk:L.length≤k):out=R:=by
 subst hb
 obtain ⟨h1,h2⟩:=h
 rw [if_pos rfl,List.drop_eq_nil_of_le hk,List.append_nil] at h2;exact h2
theorem PutAt.last (hb:b=false) (hk:L.length≤k):out++[y]=R:=by
 subst hb
 obtain ⟨h1,h2⟩:=h
 rw [if_neg (by decide),List.drop_eq_nil_of_le hk] at h2;exact h2
end
def PutP (R:List PX) (w:World) (e:Ending) (w':World):Prop:=∃v,e= .returned v∧w'.ownsRow (w.heap.size+1) 109 8 v R.length (pcells R)∧Below w.heap.size w w'
set_option maxRecDepth 100000 in
set_option maxHeartbeats 8000000 in
theorem sput_any (L:List PX) (nm:ByteArray) (hd:Hd) (x:Ex) (ra:Option Addr) (n rc:Nat) (w:World) (hn:n=L.length) (hm:n≤1000) (hL:PRow w ra L):Calls Tryz.prog 206 #[.slice ra n rc,hd.pair nm] w (PutP (putP L (nm,hd,x)) w):=by
 obtain ⟨op,nn,s1,p,pl,pc,q,ql,qc,o,ka,kl,kc⟩:=hd
 obtain ⟨R,hR⟩:∃R,putP L (nm,(⟨op,nn,s1,p,pl,pc,q,ql,qc,o,ka,kl,kc⟩:Hd),x)=R:=⟨_,rfl⟩
 have HA:=Lib.hid (PutAt.start L (nm,(⟨op,nn,s1,p,pl,pc,q,ql,qc,o,ka,kl,kc⟩:Hd),x))
 rw [hR] at HA⊢
 have HL:=Lib.hid hL
 have HN:=Lib.hid hn
 obtain ⟨i0,hi,hz0,hz1,hz2⟩:=info_parts info109
 have HI:=Lib.hid hi
 have HI0:=Lib.hid hz0
 have HI1:=Lib.hid hz1
 have HI2:=Lib.hid hz2
 have HB:=Lib.hid (Bx.new w #[.string nm,.int .i64 op,.int .i64 nn,.string s1,.slice p pl pc,.slice q ql qc,.bool o,.slice ka kl kc] 109)
 have HW:=Lib.hid (bl_alloc (o:= .cells #[.string nm,.int .i64 op,.int .i64 nn,.string s1,.slice p pl pc,.slice q ql qc,.bool o,.slice ka kl kc] 109) (Below.refl w.heap.size w))
 clear hi hz0 hz1 hz2 hL hn hR
 unfold Hd.pair
 dsimp only
 go_enter Tryz.func206,Tryz.ntmps206
 go_wp2_with fail
 go_loopw [5,6,7] (fun v b i wr=>∃(k:Nat) (bb:Bool) (out:List PX),k≤n∧i= .int .i64 (k:Int)∧b= .bool bb∧out.length≤k+1∧Hid (PutAt L R (nm,(⟨op,nn,s1,p,pl,pc,q,ql,qc,o,ka,kl,kc⟩:Hd),x) k bb out)∧Hid (wr.ownsRow (w.heap.size+1) 109 8 v out.length (pcells out))∧Hid (Below w.heap.size w wr)∧Hid (Bx wr w.heap.size #[.string nm,.int .i64 op,.int .i64 nn,.string s1,.slice p pl pc,.slice q ql qc,.bool o,.slice ka kl kc] 109)) (fun _ _ i _=>n-(intOf i).toNat)
 case atStart=>exact ⟨0,false,[],Nat.zero_le _,rfl,rfl,by decide,HA,Lib.hid (World.ownsRow_nil _ _ _ _),HW,HB⟩
 case round=>
  obtain ⟨k,bb,out,hk,rfl,rfl,hol,hA,hO,hW,hB⟩:=hrel
  rename World=>wr
  by_cases hlt:k<n
  ·have hkL:k<L.length:=by have:=HN.out;omega
   obtain ⟨b,off,rfl,lt,e0,hh⟩:=(HL.out.below hW.out) k hkL
   obtain ⟨⟨nm2,⟨op2,nn2,s2,p2,pl2,pc2,q2,ql2,qc2,o2,ka2,kl2,kc2⟩,x2⟩,hy2⟩:∃y,L[k]=y:=⟨_,rfl⟩
   rw [hy2] at e0 hh
   dsimp only at e0
   cases bb with
   |true=>
    have HA2:=hA.out.later rfl hkL
    rw [hy2] at HA2
    replace HA2:=Lib.hid HA2
    go_wp2_with fail
    go_quiet (fail)
    obtain ⟨wq,hwq⟩:∃wq,wq=wr.drewN nq:=⟨_,rfl⟩
    have hbq:Below wr.heap.size wr wq:=by rw [hwq];exact Lx.bl_drewN _ _
    rw [←hwq]
    clear hwq
    have HWq:=Lib.hid (bl_step hW.out hbq)
    have HBq:=Lib.hid (hB.out.below hbq)
    have HOq:=Lib.hid (hO.out.kept (grown_below hbq) (by cases Value.ownBlock _<;>simp))
    clear hbq
    obtain ⟨b2,off2,e2,lt2,f0,hh2⟩:=(HL.out.below HWq.out) k hkL
    cases e2
    rw [hy2] at f0 hh2
    obtain ⟨d0,d1,d2,d3,d4,d5,d6⟩:=hh2
    dsimp only at f0 d0 d1 d2 d3 d4 d5 d6
    have HCN:Hid (∀i u,[.string nm2,.int .i64 op2,.int .i64 nn2,.string s2,.slice p2 pl2 pc2,.slice q2 ql2 qc2,.bool o2,.slice ka2 kl2 kc2][i]?=some u→(wq.alloc (.cells #[.string nm2,.int .i64 op2,.int .i64 nn2,.string s2,.slice p2 pl2 pc2,.slice q2 ql2 qc2,.bool o2,.slice ka2 kl2 kc2] 109)).cell? ((⟨wq.heap.size,0,none⟩:Addr).add i)=some u):=Lib.hid (World.news_of_block (Lx.heap_new wq _))
    have hws:=HWq.out.size
    have hbl:=HBq.out.lt
    go_wp2_with (at_builtin;refine wpList_append_own_at _ rfl _ _ 32 rfl (w.heap.size+1) 109 i0 _ 8 128 Tryz.underlying32 HI.out HI0.out HI1.out HI2.out rfl (by decide) _ out.length (pcells out) rfl (HOq.out.alloc _) ⟨wq.heap.size,0,none⟩ 1 1 [.string nm2,.int .i64 op2,.int .i64 nn2,.string s2,.slice p2 pl2 pc2,.slice q2 ql2 qc2,.bool o2,.slice ka2 kl2 kc2] rfl rfl HCN.out (fun u hu=>by simp at hu;rcases hu with rfl|rfl|rfl|rfl|rfl|rfl|rfl|rfl<;>rfl) (by unfold maxLen;omega) (by omega) (by simp;omega) ?_)
    intro v6 w6 hown' hgrow hnil hob
    have hbase:=own_base HOq.out
    have HO6:=Lib.hid (show w6.ownsRow (w.heap.size+1) 109 8 v6 (out++[((nm2,(⟨op2,nn2,s2,p2,pl2,pc2,q2,ql2,qc2,o2,ka2,kl2,kc2⟩:Hd),x2):PX)]).length (pcells (out++[((nm2,(⟨op2,nn2,s2,p2,pl2,pc2,q2,ql2,qc2,o2,ka2,kl2,kc2⟩:Hd),x2):PX)])) by rw [pcells_snoc,List.length_append];exact hown')
    have HW6:=Lib.hid (Below.grown (HWq.out.alloc HWq.out.size (.cells #[.string nm2,.int .i64 op2,.int .i64 nn2,.string s2,.slice p2 pl2 pc2,.slice q2 ql2 qc2,.bool o2,.slice ka2 kl2 kc2] 109)) hgrow (by simp;omega) (fun k hk=>by have:=hbase k hk;omega))
    have HB6:=Lib.hid (show Bx w6 w.heap.size #[.string nm,.int .i64 op,.int .i64 nn,.string s1,.slice p pl pc,.slice q ql qc,.bool o,.slice ka kl kc] 109 from (hgrow.block _ (by simp;omega) (fun e=>by have:=hbase _ e.symm;omega)).trans (HBq.out.old _))
    clear hown' hgrow hnil hob hbase HCN hws hbl
    go_wp2_with fail
    go_roundw
    case rel=>exact ⟨k+1,true,out++[((nm2,(⟨op2,nn2,s2,p2,pl2,pc2,q2,ql2,qc2,o2,ka2,kl2,kc2⟩:Hd),x2):PX)],by omega,by go_num,rfl,by simp;omega,HA2,HO6,HW6,HB6⟩
    case measure=>simp [intOf];omega
   |false=>
    have HOL:Hid (out.length=k):=Lib.hid hA.out.1
    cases hlt2:Op.bytesLess nm.toList nm2.toList with
    |true=>
     have HA2:=hA.out.here rfl hkL (by rw [hy2];exact hlt2)
     rw [hy2] at HA2
     replace HA2:=Lib.hid HA2
     have hbl2:Op.bytesLess nm.toList nm2.toList=true:=hlt2
     have hbx:=hB.out
     have g0:=hbx.cell 0 rfl
     clear hbx
     go_wp2_with fail
     go_quiet (fail)
     obtain ⟨wq,hwq⟩:∃wq,wq=wr.drewN nq:=⟨_,rfl⟩
     have hbq:Below wr.heap.size wr wq:=by rw [hwq];exact Lx.bl_drewN _ _
     rw [←hwq]
     clear hwq
     have HWq:=Lib.hid (bl_step hW.out hbq)
     have HBq:=Lib.hid (hB.out.below hbq)
     have HOq:=Lib.hid (hO.out.kept (grown_below hbq) (by cases Value.ownBlock _<;>simp))
     clear hbq
     have hbx:=HBq.out
     have g0:=hbx.cell 0 rfl
     have g1:=hbx.cell 1 rfl
     have g2:=hbx.cell 2 rfl
     have g3:=hbx.cell 3 rfl
     have g4:=hbx.cell 4 rfl
     have g5:=hbx.cell 5 rfl
     have g6:=hbx.cell 6 rfl
     have g7:=hbx.cell 7 rfl
     clear hbx
     have HCN:Hid (∀i u,[.string nm,.int .i64 op,.int .i64 nn,.string s1,.slice p pl pc,.slice q ql qc,.bool o,.slice ka kl kc][i]?=some u→(wq.alloc (.cells #[.string nm,.int .i64 op,.int .i64 nn,.string s1,.slice p pl pc,.slice q ql qc,.bool o,.slice ka kl kc] 109)).cell? ((⟨wq.heap.size,0,none⟩:Addr).add i)=some u):=Lib.hid (World.news_of_block (Lx.heap_new wq _))
     have hws:=HWq.out.size
     have hbl:=HBq.out.lt
     go_wp2_with (at_builtin;refine wpList_append_own_at _ rfl _ _ 32 rfl (w.heap.size+1) 109 i0 _ 8 128 Tryz.underlying32 HI.out HI0.out HI1.out HI2.out rfl (by decide) _ out.length (pcells out) rfl (HOq.out.alloc _) ⟨wq.heap.size,0,none⟩ 1 1 [.string nm,.int .i64 op,.int .i64 nn,.string s1,.slice p pl pc,.slice q ql qc,.bool o,.slice ka kl kc] rfl rfl HCN.out (fun u hu=>by simp at hu;rcases hu with rfl|rfl|rfl|rfl|rfl|rfl|rfl|rfl<;>rfl) (by unfold maxLen;omega) (by omega) (by simp;omega) ?_)
     intro v6 w6 hown' hgrow hnil hob
     have hbase:=own_base HOq.out
     have HO6:=Lib.hid (show w6.ownsRow (w.heap.size+1) 109 8 v6 (out++[((nm,(⟨op,nn,s1,p,pl,pc,q,ql,qc,o,ka,kl,kc⟩:Hd),x):PX)]).length (pcells (out++[((nm,(⟨op,nn,s1,p,pl,pc,q,ql,qc,o,ka,kl,kc⟩:Hd),x):PX)])) by rw [pcells_snoc,List.length_append];exact hown')
     have HW6:=Lib.hid (Below.grown (HWq.out.alloc HWq.out.size (.cells #[.string nm,.int .i64 op,.int .i64 nn,.string s1,.slice p pl pc,.slice q ql qc,.bool o,.slice ka kl kc] 109)) hgrow (by simp;omega) (fun k hk=>by have:=hbase k hk;omega))
     have HB6:=Lib.hid (show Bx w6 w.heap.size #[.string nm,.int .i64 op,.int .i64 nn,.string s1,.slice p pl pc,.slice q ql qc,.bool o,.slice ka kl kc] 109 from (hgrow.block _ (by simp;omega) (fun e=>by have:=hbase _ e.symm;omega)).trans (HBq.out.old _))
     clear hown' hgrow hnil hob hbase HCN hws hbl
     obtain ⟨out6,ho6⟩:∃zz,out++[((nm,(⟨op,nn,s1,p,pl,pc,q,ql,qc,o,ka,kl,kc⟩:Hd),x):PX)]=zz:=⟨_,rfl⟩
     rw [ho6] at HO6 HA2
     have HL6:Hid (out6.length=k+1):=Lib.hid (by rw [←ho6,List.length_append,HOL.out];rfl)
     clear ho6
     obtain ⟨b2,off2,e2,lt2,f0,hh2⟩:=(HL.out.below HW6.out) k hkL
     cases e2
     rw [hy2] at f0 hh2
     obtain ⟨d0,d1,d2,d3,d4,d5,d6⟩:=hh2
     dsimp only at f0 d0 d1 d2 d3 d4 d5 d6
     have HCN:Hid (∀i u,[.string nm2,.int .i64 op2,.int .i64 nn2,.string s2,.slice p2 pl2 pc2,.slice q2 ql2 qc2,.bool o2,.slice ka2 kl2 kc2][i]?=some u→(w6.alloc (.cells #[.string nm2,.int .i64 op2,.int .i64 nn2,.string s2,.slice p2 pl2 pc2,.slice q2 ql2 qc2,.bool o2,.slice ka2 kl2 kc2] 109)).cell? ((⟨w6.heap.size,0,none⟩:Addr).add i)=some u):=Lib.hid (World.news_of_block (Lx.heap_new w6 _))
     have hws:=HW6.out.size
     have hbl:=HB6.out.lt
     go_wp2_with (at_builtin;refine wpList_append_own_at _ rfl _ _ 32 rfl (w.heap.size+1) 109 i0 _ 8 128 Tryz.underlying32 HI.out HI0.out HI1.out HI2.out rfl (by decide) _ out6.length (pcells out6) rfl (HO6.out.alloc _) ⟨w6.heap.size,0,none⟩ 1 1 [.string nm2,.int .i64 op2,.int .i64 nn2,.string s2,.slice p2 pl2 pc2,.slice q2 ql2 qc2,.bool o2,.slice ka2 kl2 kc2] rfl rfl HCN.out (fun u hu=>by simp at hu;rcases hu with rfl|rfl|rfl|rfl|rfl|rfl|rfl|rfl<;>rfl) (by unfold maxLen;have:=HL6.out;omega) (by have:=HL6.out;omega) (by simp;omega) ?_)
     intro v7 w7 hown' hgrow hnil hob
     have hbase:=own_base HO6.out
     have HO7:=Lib.hid (show w7.ownsRow (w.heap.size+1) 109 8 v7 (out6++[((nm2,(⟨op2,nn2,s2,p2,pl2,pc2,q2,ql2,qc2,o2,ka2,kl2,kc2⟩:Hd),x2):PX)]).length (pcells (out6++[((nm2,(⟨op2,nn2,s2,p2,pl2,pc2,q2,ql2,qc2,o2,ka2,kl2,kc2⟩:Hd),x2):PX)])) by rw [pcells_snoc,List.length_append];exact hown')
     have HW7:=Lib.hid (Below.grown (HW6.out.alloc HW6.out.size (.cells #[.string nm2,.int .i64 op2,.int .i64 nn2,.string s2,.slice p2 pl2 pc2,.slice q2 ql2 qc2,.bool o2,.slice ka2 kl2 kc2] 109)) hgrow (by simp;omega) (fun k hk=>by have:=hbase k hk;omega))
     have HB7:=Lib.hid (show Bx w7 w.heap.size #[.string nm,.int .i64 op,.int .i64 nn,.string s1,.slice p pl pc,.slice q ql qc,.bool o,.slice ka kl kc] 109 from (hgrow.block _ (by simp;omega) (fun e=>by have:=hbase _ e.symm;omega)).trans (HB6.out.old _))
     clear hown' hgrow hnil hob hbase HCN hws hbl
     go_wp2_with fail
     go_roundw
     case rel=>exact ⟨k+1,true,out6++[((nm2,(⟨op2,nn2,s2,p2,pl2,pc2,q2,ql2,qc2,o2,ka2,kl2,kc2⟩:Hd),x2):PX)],by omega,by go_num,rfl,by have:=HL6.out;simp;omega,HA2,HO7,HW7,HB7⟩
     case measure=>simp [intOf];omega
    |false=>
     have HA2:=hA.out.past rfl hkL (by rw [hy2];exact hlt2)
     rw [hy2] at HA2
     replace HA2:=Lib.hid HA2
     have hbl2:Op.bytesLess nm.toList nm2.toList=false:=hlt2
     have hbx:=hB.out
     have g0:=hbx.cell 0 rfl
     clear hbx
     go_wp2_with fail
     go_quiet (fail)
     obtain ⟨wq,hwq⟩:∃wq,wq=wr.drewN nq:=⟨_,rfl⟩
     have hbq:Below wr.heap.size wr wq:=by rw [hwq];exact Lx.bl_drewN _ _
     rw [←hwq]
     clear hwq
     have HWq:=Lib.hid (bl_step hW.out hbq)
     have HBq:=Lib.hid (hB.out.below hbq)
     have HOq:=Lib.hid (hO.out.kept (grown_below hbq) (by cases Value.ownBlock _<;>simp))
     clear hbq
     obtain ⟨b2,off2,e2,lt2,f0,hh2⟩:=(HL.out.below HWq.out) k hkL
     cases e2
     rw [hy2] at f0 hh2
     obtain ⟨d0,d1,d2,d3,d4,d5,d6⟩:=hh2
     dsimp only at f0 d0 d1 d2 d3 d4 d5 d6
     have HCN:Hid (∀i u,[.string nm2,.int .i64 op2,.int .i64 nn2,.string s2,.slice p2 pl2 pc2,.slice q2 ql2 qc2,.bool o2,.slice ka2 kl2 kc2][i]?=some u→(wq.alloc (.cells #[.string nm2,.int .i64 op2,.int .i64 nn2,.string s2,.slice p2 pl2 pc2,.slice q2 ql2 qc2,.bool o2,.slice ka2 kl2 kc2] 109)).cell? ((⟨wq.heap.size,0,none⟩:Addr).add i)=some u):=Lib.hid (World.news_of_block (Lx.heap_new wq _))
     have hws:=HWq.out.size
     have hbl:=HBq.out.lt
     go_wp2_with (at_builtin;refine wpList_append_own_at _ rfl _ _ 32 rfl (w.heap.size+1) 109 i0 _ 8 128 Tryz.underlying32 HI.out HI0.out HI1.out HI2.out rfl (by decide) _ out.length (pcells out) rfl (HOq.out.alloc _) ⟨wq.heap.size,0,none⟩ 1 1 [.string nm2,.int .i64 op2,.int .i64 nn2,.string s2,.slice p2 pl2 pc2,.slice q2 ql2 qc2,.bool o2,.slice ka2 kl2 kc2] rfl rfl HCN.out (fun u hu=>by simp at hu;rcases hu with rfl|rfl|rfl|rfl|rfl|rfl|rfl|rfl<;>rfl) (by unfold maxLen;omega) (by omega) (by simp;omega) ?_)
     intro v6 w6 hown' hgrow hnil hob
     have hbase:=own_base HOq.out
     have HO6:=Lib.hid (show w6.ownsRow (w.heap.size+1) 109 8 v6 (out++[((nm2,(⟨op2,nn2,s2,p2,pl2,pc2,q2,ql2,qc2,o2,ka2,kl2,kc2⟩:Hd),x2):PX)]).length (pcells (out++[((nm2,(⟨op2,nn2,s2,p2,pl2,pc2,q2,ql2,qc2,o2,ka2,kl2,kc2⟩:Hd),x2):PX)])) by rw [pcells_snoc,List.length_append];exact hown')
     have HW6:=Lib.hid (Below.grown (HWq.out.alloc HWq.out.size (.cells #[.string nm2,.int .i64 op2,.int .i64 nn2,.string s2,.slice p2 pl2 pc2,.slice q2 ql2 qc2,.bool o2,.slice ka2 kl2 kc2] 109)) hgrow (by simp;omega) (fun k hk=>by have:=hbase k hk;omega))
     have HB6:=Lib.hid (show Bx w6 w.heap.size #[.string nm,.int .i64 op,.int .i64 nn,.string s1,.slice p pl pc,.slice q ql qc,.bool o,.slice ka kl kc] 109 from (hgrow.block _ (by simp;omega) (fun e=>by have:=hbase _ e.symm;omega)).trans (HBq.out.old _))
     clear hown' hgrow hnil hob hbase HCN hws hbl
     go_wp2_with fail
     go_roundw
     case rel=>exact ⟨k+1,false,out++[((nm2,(⟨op2,nn2,s2,p2,pl2,pc2,q2,ql2,qc2,o2,ka2,kl2,kc2⟩:Hd),x2):PX)],by omega,by go_num,rfl,by simp;omega,HA2,HO6,HW6,HB6⟩
     case measure=>simp [intOf];omega
  ·have hkL:L.length≤k:=by have:=HN.out;omega
   cases bb with
   |true=>
    have HE:=Lib.hid (hA.out.done rfl hkL)
    go_wp2_with fail
    go_ret
    rw [←HE.out]
    exact ⟨_,rfl,hO.out,hW.out⟩
   |false=>
    have HE:=Lib.hid (hA.out.last rfl hkL)
    have hbx:=hB.out
    have g0:=hbx.cell 0 rfl
    have g1:=hbx.cell 1 rfl
    have g2:=hbx.cell 2 rfl
    have g3:=hbx.cell 3 rfl
    have g4:=hbx.cell 4 rfl
    have g5:=hbx.cell 5 rfl
    have g6:=hbx.cell 6 rfl
    have g7:=hbx.cell 7 rfl
    clear hbx
    have HCN:Hid (∀i u,[.string nm,.int .i64 op,.int .i64 nn,.string s1,.slice p pl pc,.slice q ql qc,.bool o,.slice ka kl kc][i]?=some u→(wr.alloc (.cells #[.string nm,.int .i64 op,.int .i64 nn,.string s1,.slice p pl pc,.slice q ql qc,.bool o,.slice ka kl kc] 109)).cell? ((⟨wr.heap.size,0,none⟩:Addr).add i)=some u):=Lib.hid (World.news_of_block (Lx.heap_new wr _))
    have hws:=hW.out.size
    have hbl:=hB.out.lt
    go_wp2_with (at_builtin;refine wpList_append_own_at _ rfl _ _ 32 rfl (w.heap.size+1) 109 i0 _ 8 128 Tryz.underlying32 HI.out HI0.out HI1.out HI2.out rfl (by decide) _ out.length (pcells out) rfl (hO.out.alloc _) ⟨wr.heap.size,0,none⟩ 1 1 [.string nm,.int .i64 op,.int .i64 nn,.string s1,.slice p pl pc,.slice q ql qc,.bool o,.slice ka kl kc] rfl rfl HCN.out (fun u hu=>by simp at hu;rcases hu with rfl|rfl|rfl|rfl|rfl|rfl|rfl|rfl<;>rfl) (by unfold maxLen;omega) (by omega) (by simp;omega) ?_)
    intro v6 w6 hown' hgrow hnil hob
    have hbase:=own_base hO.out
    have HO6:=Lib.hid (show w6.ownsRow (w.heap.size+1) 109 8 v6 (out++[((nm,(⟨op,nn,s1,p,pl,pc,q,ql,qc,o,ka,kl,kc⟩:Hd),x):PX)]).length (pcells (out++[((nm,(⟨op,nn,s1,p,pl,pc,q,ql,qc,o,ka,kl,kc⟩:Hd),x):PX)])) by rw [pcells_snoc,List.length_append];exact hown')
    have HW6:=Lib.hid (Below.grown (hW.out.alloc hW.out.size (.cells #[.string nm,.int .i64 op,.int .i64 nn,.string s1,.slice p pl pc,.slice q ql qc,.bool o,.slice ka kl kc] 109)) hgrow (by simp;omega) (fun k hk=>by have:=hbase k hk;omega))
    have HB6:=Lib.hid (show Bx w6 w.heap.size #[.string nm,.int .i64 op,.int .i64 nn,.string s1,.slice p pl pc,.slice q ql qc,.bool o,.slice ka kl kc] 109 from (hgrow.block _ (by simp;omega) (fun e=>by have:=hbase _ e.symm;omega)).trans (hB.out.old _))
    clear hown' hgrow hnil hob hbase HCN hws hbl
    go_wp2_with fail
    go_ret
    rw [←HE.out]
    exact ⟨_,rfl,HO6.out,HW6.out⟩
end Go.Proofs.YtkfihhagcimcmaaGreatDoor.Ps
namespace Go.Proofs.YtkfihhagcimcmaaGreatDoor.Ps
open Go.RowKit
open Lx (Tok bs)
structure Kin (s s':St):Prop where
 a:s'.a=s.a
 T:s'.T=s.T
 E:s'.E=s.E
 i:s'.i≤s.T.length+1
theorem SW.kin {w W:World} {s s':St} (h:SW w s) (hb:Below w.heap.size w W) (hk:Kin s s'):SW W s':=
 ⟨by rw [hk.a,hk.T];exact h.row.below hb,by rw [hk.T];exact h.ok,by rw [hk.T];exact h.len,by have:=hk.i;have:=h.len;omega⟩
structure Sv (s s':St) (M:List Tok):Prop where
 eq:s'={s with i:=s'.i}
 L:s'.L=M
 i:s'.i≤s.T.length
 ok:s.err=0∧s.bad=0
structure Dd (s s':St) (a x:Int):Prop where
 kin:Kin s s'
 bad:s'.bad=a
 err:s'.err=x
 x:x≠0
 lo:s.o-1≤s'.o
 hi:s'.o≤s.o
theorem Sv.refl {s:St} (h:s.err=0∧s.bad=0) (hi:s.i≤s.T.length):Sv s s s.L:=⟨rfl,rfl,hi,h⟩
section
variable {s s':St} {M:List Tok} (h:Sv s s' M)
include h
theorem Sv.err:s'.err=0:=by rw [h.eq];exact h.ok.1
theorem Sv.kin:Kin s s':=⟨by rw [h.eq],by rw [h.eq],by rw [h.eq],by have:=h.i;omega⟩
theorem Sv.pk:s'.pk=Ps.pk s.E M:=by unfold St.pk;rw [h.L];rw [h.eq]
theorem Sv.is (sg:List UInt8):s'.is sg=isB sg M:=by unfold St.is;rw [h.L,h.err];rfl
theorem Sv.next {t:Tok} {N:List Tok} (hM:M=t::N):Sv s s'.next N:=by
 have hL:=h.L
 have hi:s'.i<s'.T.length:=by
  by_cases hc:s'.i<s'.T.length
  ·exact hc
  ·unfold St.L at hL;rw [List.drop_eq_nil_of_le (by omega),hM] at hL;cases hL
 have hT:s'.T=s.T:=h.kin.T
 unfold St.next
 rw [if_pos h.err]
 refine ⟨?_,?_,by show s'.i+1≤_;rw [←hT];omega,h.ok⟩
 ·show ({s' with i:=s'.i+1}:St)={s with i:=s'.i+1}
  conv=>lhs;rw [h.eq]
 ·show s'.T.drop (s'.i+1)=N
  unfold St.L at hL
  rw [List.drop_eq_getElem_cons hi,hM] at hL
  injection hL
theorem Sv.fail (t:Tok) (e:Int) (he:e≠0):Dd s (s'.fail t e) t.at_ e:=by
 unfold St.fail
 rw [if_pos h.err]
 have h2:s'.o=s.o:=by rw [h.eq]
 exact ⟨⟨h.kin.a,h.kin.T,h.kin.E,h.kin.i⟩,rfl,rfl,he,by show s.o-1≤s'.o;omega,by show s'.o≤s.o;omega⟩
theorem Sv.must_ok {sg:List UInt8} (hs:isB sg M=true):Sv s (s'.must sg) M.tail:=by
 unfold St.must
 rw [h.is,hs,if_pos rfl]
 cases M with
 |nil=>cases hs
 |cons t N=>exact h.next rfl
theorem Sv.must_no {sg:List UInt8} (hs:isB sg M=false):Dd s (s'.must sg) (Ps.pk s.E M).at_ 21:=by
 unfold St.must
 rw [h.is,hs,if_neg (by decide),h.pk]
 exact h.fail _ 21 (by decide)
theorem Sv.named_ok (hn:nameB M=true):Sv s s'.named.1 M.tail∧s'.named.2=bs (Ps.pk s.E M).x.t:=by
 unfold St.named
 rw [h.L,hn,if_pos rfl,h.pk]
 cases M with
 |nil=>cases hn
 |cons t N=>exact ⟨h.next rfl,rfl⟩
theorem Sv.named_no (hn:nameB M=false):Dd s s'.named.1 (Ps.pk s.E M).at_ 21∧s'.named.2=⟨#[]⟩:=by
 unfold St.named
 rw [h.L,hn,if_neg (by decide),h.pk]
 exact ⟨h.fail _ 21 (by decide),rfl⟩
end
section
variable {s s':St} {a x:Int} (h:Dd s s' a x)
include h
theorem Dd.live:s'.err≠0:=by rw [h.err];exact h.x
theorem Dd.is (sg:List UInt8):s'.is sg=false:=by
 unfold St.is
 have:=h.live
 have e:(s'.err==0)=false:=by simpa using this
 rw [e];rfl
theorem Dd.next:s'.next=s':=by unfold St.next;rw [if_neg h.live]
theorem Dd.fail (t:Tok) (e:Int):s'.fail t e=s':=by unfold St.fail;rw [if_neg h.live]
theorem Dd.must (sg:List UInt8):s'.must sg=s':=by unfold St.must;rw [h.is,if_neg (by decide),h.fail]
theorem Dd.named:s'.named.1=s':=by
 unfold St.named
 split
 ·exact h.next
 ·exact h.fail _ _
end
def SRes {α:Type} (V:World→α→Value→Prop) (w:World) (s:St) (r:Res α) (e:Ending) (w':World):Prop:=
 Below w.heap.size w w'∧∃s' v,e= .returned (.tuple #[s'.v,v])∧match r with
 | .ok x M=>Sv s s' M∧V w' x v
 | .bad a x=>Dd s s' a x∧∃h:Hd,v=h.agg
theorem owns_grown {w w':World} {base E s n c:Nat} {v:Value} {xs:List Value} (h:w.ownsRow base E s v n xs) (hg:w.grownBy w' (some c)) (hc:v.ownBlock≠some c):w'.ownsRow base E s v n xs:=
 h.kept hg (by
  cases hv:v.ownBlock with
  |none=>exact .inl rfl
  |some g=>exact .inr (fun e=>hc (by rw [hv,e])))
end Go.Proofs.YtkfihhagcimcmaaGreatDoor.Ps
