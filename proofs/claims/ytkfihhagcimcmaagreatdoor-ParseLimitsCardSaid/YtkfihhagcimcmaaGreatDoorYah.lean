/- Ta, Tb, Tc, Td, Te, Tf, Tg -/
import Derived.Test.YtkfihhagcimcmaaGreatDoorChecked
import Derived.Test.YtkfihhagcimcmaaGreatDoorY0
import Derived.Test.YtkfihhagcimcmaaGreatDoorYaf
namespace Go.Proofs.YtkfihhagcimcmaaGreatDoor
open Go.RowKit Go.Shelf
attribute [local go_sem] Oper.semAt_some
structure LowI {α:Type} (B:Nat) (Q:List α→World→Prop) (F:Nat→Prop) (pre:List α) (X:World):Prop where
 far:∀r,F r→B≤r
 size:B≤X.heap.size
 held:Q pre X
def Low {α:Type} (B:Nat) (Q:List α→World→Prop):Prop:=∀pre X Y row,Q pre X→B≤X.heap.size→X.grownBy Y row→(∀r,row=some r→B≤r)→Q pre Y
theorem fr_low {α:Type} {B:Nat} {Q:List α→World→Prop} (hQ:Low B Q):Fr (LowI B Q) where
 grow:=fun {F pre X Y} h hg=>⟨fun r hr=>hr.elim (h.far r) (fun h3=>Nat.le_trans h.size h3.1),Nat.le_trans h.size hg.size,hQ _ X Y none h.held h.size hg (fun _ e=>by cases e)⟩
 put:=fun {F pre X Y r} h hr hg=>⟨h.far,Nat.le_trans h.size hg.size,hQ _ X Y (some r) h.held h.size hg (fun k e=>by cases e;exact h.far _ hr)⟩
 less:=fun hF h=>⟨fun r hr=>h.far r (hF r hr),h.size,h.held⟩
theorem low_below {α:Type} {B:Nat} {w:World} (h:w.heap.size≤B):Low B (fun (_:List α) X=>Below w.heap.size w X):=fun _ _ _ _ hq _ hg hr=>hq.grown hg hq.size (fun k e=>Nat.le_trans h (hr k e))
theorem low_box {α:Type} {B b:Nat} {t:TypeId} (f:List α→Value) (hb:b<B):Low B (fun pre X=>Boxed X b t (f pre)):=fun _ _ _ _ hq _ hg hr=>hq.kept hg (fun e=>by have:=hr _ e.symm;omega)
theorem Low.and {α:Type} {B:Nat} {Q R:List α→World→Prop} (h:Low B Q) (k:Low B R):Low B (fun pre X=>Q pre X∧R pre X):=fun pre X Y row hq hs hg hr=>⟨h pre X Y row hq.1 hs hg hr,k pre X Y row hq.2 hs hg hr⟩
noncomputable def rightB (n:Nat) (x:Ex):Bool:=(allN n x).all ownB
end Go.Proofs.YtkfihhagcimcmaaGreatDoor
namespace Go.Proofs.YtkfihhagcimcmaaGreatDoor
open Go.RowKit
theorem oper_in {l n:Nat} {P:Program} {o:Oper} {a:Act} {w:World} {K:Act→World→Prop} {Q:Exit→Act→World→Prop} (hd:∀c,o.op≠ .defer c) (h:o.wp P a w K Q):o.wpIn (Fence.wide.inRound l) n P a w K Q:=by
 refine ⟨fun _ _=>trivial,?_⟩
 rw [show (Fence.wide.inRound l).round=some l from rfl,Oper.semAt_some l _ _ hd]
 unfold Oper.wp at h
 generalize (execOp a.eval o).run P w=r at*
 cases r with
 |ok x w'=>
  cases x with
  |value v=>exact h
  |skip=>exact h
  |defer d=>exact h
  |enter f args=>exact ⟨(fun h1=>by cases h1),(callsIn_wide (n:=n-1)).2 h⟩
  |row row args=>exact ⟨(fun h1=>by cases h1),fun c cs _=>by
    obtain ⟨v,w2,hR,hS⟩:=h c cs
    exact ⟨v,w2,hR,stepsIn_wide.2 hS⟩⟩
  |_=>exact h.elim
 |halt x w'=>cases x<;>exact h
theorem any_in {l n:Nat} {P:Program} {md:Region.Mode} {ops:Array Oper} {Q:Exit→Act→World→Prop} (hd:∀(j:Nat) (o:Oper) c,ops[j]?=some o→o.op≠ .defer c) (hQ:¬LetsOut Q):
  ∀(fuel:Nat) (listed:Array Bool) (a:Act) (w:World),wpAny P md ops Q fuel listed a w→wpAnyIn (Fence.wide.inRound l) n P md ops Q fuel listed a w
 |0,_,_,_,h=>h
 |fuel+1,_,_,_,h=>⟨h.1,fun i hi=>by
  have h2:=h.2 i hi
  unfold wpOp at h2
  unfold wpOpIn
  cases ho:ops[i]? with
  |none=>rw [ho] at h2;exact any_in hd hQ fuel _ _ _ h2
  |some o=>
   rw [ho] at h2
   simp only at h2⊢
   split
   ·rename_i hw
    rw [if_pos hw] at h2
    rcases h2 with h2|⟨_,h3⟩
    ·exact oper_in (hd i o · ho) (Oper.wp_mono (fun a w=>any_in hd hQ fuel _ a w) h2)
    ·exact absurd h3 hQ
   ·rename_i hw
    rw [if_neg hw] at h2
    exact ⟨fun _ _=>trivial,any_in hd hQ fuel _ _ _ h2⟩⟩
theorem region_in {l n:Nat} {P:Program} {id:Nat} {ops:Array Oper} {Q:Exit→Act→World→Prop} {S:World→Prop} {a:Act} {w:World} (hm:P.follows .mixedOrders=true) (hd:∀(j:Nat) (o:Oper) c,ops[j]?=some o→o.op≠ .defer c) (hQ:¬LetsOut Q)
  (h:wpAnyH P .any ops Q S ops.size (Array.replicate ops.size false) a {w with drawn:=w.drawn+1}):(Code.region id ops true).wpIn (Fence.wide.inRound l) n P Q a w:=
 wpIn_region_any hm (any_in hd hQ _ _ _ _ (wpAny_of_held _ _ _ _ h))
def noDefer (ops:Array Oper):Bool:=ops.all fun o=>match o.op with| .defer _=>false|_=>true
theorem noDefer_spec {ops:Array Oper} (h:noDefer ops=true) (j:Nat) (o:Oper) (c:Call) (ho:ops[j]?=some o):o.op≠ .defer c:=by
 intro heq
 have:=Array.all_eq_true_iff_forall_mem.1 h o (Array.mem_of_getElem? ho)
 simp [heq] at this
section
variable {P:Program} {md:Region.Mode} {ops:Array Oper} {Q:Exit→Act→World→Prop} {S:World→Prop}
theorem take_at' {i:Nat} {oi:Oper} (d:Nat) {v:Value} {fuel:Nat} {listed:Array Bool} {a:Act} {w:World} (hi:ops[i]?=some oi) (hd:oi.dst=some d)
  (hs:Region.noSelect ops=true) (hf:Region.free md ops listed i=true) (hr:(Region.ready md ops listed).contains i=true)
  (hQ:∀c a w,Q (.panic c) (a.put oi.dst v) w→Q (.panic c) a w) (hy:YieldsIf P ops S oi v a) (hS:S w)
  (h:wpAnyH P md ops Q S fuel (listed.setIfInBounds i true) {a with tmps:=a.tmps.setIfInBounds d v} w):wpAnyH P md ops Q S (fuel+1) listed a w:=
 wpAnyH_take hi hs hf hr hQ hy hS (by rw [hd];exact h)
theorem value_at {i:Nat} {o:Oper} (d:Nat) {a:Act} {w w':World} {v:Value} {K:Act→World→Prop} (ho:ops[i]?=some o) (hd:o.dst=some d) (hw:Region.wanted o (yielded ops a.tmps)=true) (hr:(execOp a.eval o).run P w= .ok (.value v) w') (h:K {a with tmps:=a.tmps.setIfInBounds d v} w'):wpOp P ops Q i K a w:=by
 unfold wpOp
 simp only [ho,hw,if_true,Oper.wp,hr,Oper.upon]
 exact .inl (by rw [hd];exact h)
theorem skip_at {i:Nat} {o:Oper} {a:Act} {w w':World} {K:Act→World→Prop} (ho:ops[i]?=some o) (hd:o.dst=none) (hw:Region.wanted o (yielded ops a.tmps)=true) (hr:(execOp a.eval o).run P w= .ok .skip w') (h:K a w'):wpOp P ops Q i K a w:=by
 unfold wpOp
 simp only [ho,hw,if_true,Oper.wp,hr,Oper.upon]
 exact .inl (by rw [hd];exact h)
theorem call_at {i:Nat} {o:Oper} (d:Nat) {a:Act} {w w':World} {f:FuncId} {args:Array Value} {K:Act→World→Prop} (ho:ops[i]?=some o) (hd:o.dst=some d) (hw:Region.wanted o (yielded ops a.tmps)=true) (hr:(execOp a.eval o).run P w= .ok (.enter f args) w')
  (h:Calls P f args w' fun e w2=>∃u,e= .returned u∧K {a with tmps:=a.tmps.setIfInBounds d u} w2):wpOp P ops Q i K a w:=by
 unfold wpOp
 simp only [ho,hw,if_true,Oper.wp,hr,Oper.upon]
 exact .inl (h.mono fun e w2 ⟨u,he,hk⟩=>by subst he;rw [hd];exact hk)
theorem append_run {o:Oper} {a:Act} {s x:Operand} {t:TypeId} {w w':World} {v u r:Value} (hop:o.op=Op.call {callee:=Callee.builtin Builtin.append,args:=#[s,x],argTypes:=#[t,t]}) (hs:a.eval s=v) (hx:a.eval x=u)
  (hrun:(Builtin.append_ #[t,t] o.type #[v,u]).run P w= .ok r w'):(execOp a.eval o).run P w= .ok (.value r) w':=by
 simp [execOp,hop,resolve,invoke,builtin,hs,hx,hrun,Result.andThen]
end
end Go.Proofs.YtkfihhagcimcmaaGreatDoor
namespace Go.Proofs.YtkfihhagcimcmaaGreatDoor
open Go.RowKit Go.Shelf
attribute [local go_sem] Oper.semAt_some
def IntP (n:Int) (w:World) (e:Ending) (w':World):Prop:=e= .returned (.int .i64 n)∧Below w.heap.size w w'
end Go.Proofs.YtkfihhagcimcmaaGreatDoor
namespace Go.Proofs.YtkfihhagcimcmaaGreatDoor
open Go.RowKit Go.Shelf
attribute [local go_sem] Oper.semAt_some
theorem low_heap {α:Type} {B b:Nat} (ob:Obj) (hb:b<B):Low B (fun (_:List α) X=>X.heap[b]?=some ob):=fun _ _ _ _ hq _ hg hr=>(hg.block _ (Array.getElem?_eq_some_iff.1 hq).1 (fun e=>by have:=hr _ e.symm;omega)).trans hq
def mxL (l:List Int):Int:=l.foldl (fun a b=>max a b) 0
theorem mxL_snoc (l:List Int) (x:Int):mxL (l++[x])=max (mxL l) x:=by simp [mxL]
def depW:Nat→Ex→Int
 |0,_=>0
 |n+1,x=>wrap64 (1+mxL (x.parts.map (depW n)))
def DepQ (w:World) (n be:Nat) (ob:Obj) (pre:List HX) (X:World):Prop:=Below w.heap.size w X∧X.heap[be]?=some ob∧Boxed X (w.heap.size+1) 3 (.int .i64 (mxL ((pre.map (·.2)).map (depW n))))
set_option maxRecDepth 100000 in
set_option maxHeartbeats 4000000 in
theorem depth_step (w0:World) (n:Nat) (ih:∀(h:Hd) (x:Ex) (W:World),InX w0 n h x→Below w0.heap.size w0 W→Calls Tryz.prog 108 #[h.agg] W (IntP (depW n x) W))
  (h:Hd) (x:Ex) (w:World) (hx:InX w0 (n+1) h x) (hb0:Below w0.heap.size w0 w):Calls Tryz.prog 108 #[h.agg] w (IntP (depW (n+1) x) w):=by
 have hw1:∀f,Fence.wide.fn f:=fun _=>trivial
 have hw2:Fence.wide.depth.isSome=false:=rfl
 have hP:=fun X=>Lib.hid (parts_any w0 n h x X hx)
 obtain ⟨op,nn,s,p,pl,pc,q,ql,qc,o,k,kl,kc⟩:=h
 have HIH:=Lib.hid ih
 have HB0:=Lib.hid hb0
 clear hx ih hb0
 unfold Hd.agg at hP
 unfold Hd.agg
 dsimp only at hP
 refine (callsIn_wide (n:=9)).1 ?_
 refine callsIn_of_wp_marks Tryz.func108 rfl trivial ?_ rfl
 simp only [Tryz.ntmps108,List.size_toArray,List.length_cons,List.length_nil,Nat.reduceAdd,Nat.reduceSub,Array.replicate_succ,Array.replicate_zero,List.push_toArray,List.append_toArray,List.nil_append,List.cons_append]
 have hbx:=(Boxed.new (w.alloc (.cells #[.int .i64 op,.int .i64 nn,.string s,.slice p pl pc,.slice q ql qc,.bool o,.slice k kl kc] 35)) 3 (.int .i64 0))
 rw [World.size_alloc] at hbx
 have hB1:=below_alloc (below_alloc (Below.refl w.heap.size w) (.cells #[.int .i64 op,.int .i64 nn,.string s,.slice p pl pc,.slice q ql qc,.bool o,.slice k kl kc] 35)) (.cells #[.int .i64 0] 3)
 have HBX:=Lib.hid hbx
 have HB1:=Lib.hid hB1
 clear hbx hB1
 gi_wp2_with (gi_at_call 148;refine (callsIn_wide.2 (hP _).out).mono ?_;rintro e W2 ⟨gf,be,ob,rfl,hbe,hob,hb2,heg,hseq⟩)
 have hB2:=below_step HB1.out hb2
 have hC2:Boxed W2 (w.heap.size+1) 3 (.int .i64 0):=(hb2.block _ HBX.out.lt).trans HBX.out
 have hbl:be<W2.heap.size:=(Array.getElem?_eq_some_iff.1 hob).1
 have hz1:=HBX.out.lt
 have hz2:=hb2.size
 clear HBX HB1 hb2 hP
 have hQ:Low W2.heap.size (DepQ w n be ob):=(low_below hB2.size).and ((low_heap ob hbl).and (low_box (fun (pre:List HX)=> .int .i64 (mxL ((pre.map (·.2)).map (depW n)))) (by omega)))
 refine range_fit (gf:=gf) (lb:=#[.pointer (some ⟨be,0,none⟩)]) (by decide) rfl heg hseq (fun _=>rfl)
  (LowI W2.heap.size (DepQ w n be ob)) (fun _ _ _ _=>False) (fr_low hQ) (fun c=>⟨fun h _=>h,fun h _ _=>h,fun _ h=>h⟩) (fun F pre X hi=>⟨below_step HB0.out hi.held.1,hi.held.2.1⟩)
  ⟨fun _ h=>h.elim,Nat.le_refl _,⟨hB2,hob,hC2⟩⟩ ?round ?done ?stop
 case round=>
  rintro l2 F2 ys ⟨yh,yx⟩ X hl2 hrec hI2 hfit
  obtain ⟨op2,nn2,s2,p2,pl2,pc2,q2,ql2,qc2,o2,k2,kl2,kc2⟩:=yh
  have HF2:=Lib.hid hfit.1
  have HI2:=Lib.hid hI2
  have hlX:l2<X.heap.size:=by obtain ⟨r,hr⟩:=hrec;exact (Array.getElem?_eq_some_iff.1 hr).1
  clear hfit hI2 hrec
  dsimp only [encX,Hd.agg]
  gi_wp2
  refine ⟨⟨by simp,fun i _ hi=>Below.heap_alloc _ _ _ hi⟩,(fr_low hQ).alloc HI2.out _,?_⟩
  intro Y hYz hYo hYl hIY
  have hbx:BoxH Y X.heap.size ⟨op2,nn2,s2,p2,pl2,pc2,q2,ql2,qc2,o2,k2,kl2,kc2⟩:=(hYo _ (by omega)).trans (World.alloc_heap_new X _)
  have hne:w.heap.size+1≠X.heap.size:=by have:=HI2.out.size;omega
  obtain ⟨hbl2,hbo,hbC⟩:=hIY.held
  have hO:=fun W hW=>Lib.hid (HIH.out ⟨op2,nn2,s2,p2,pl2,pc2,q2,ql2,qc2,o2,k2,kl2,kc2⟩ yx W HF2.out (below_step HB0.out hW))
  unfold Hd.agg at hO
  dsimp only at hO
  obtain ⟨v,hv⟩:∃v,mxL ((ys.map (·.2)).map (depW n))=v:=⟨_,rfl⟩
  rw [hv] at hbC
  have HIY:=Lib.hid hIY
  have HV:=Lib.hid hv
  have HBC:=Lib.hid hbC
  have HBX:=Lib.hid hbx
  have HBL:=Lib.hid hbl2
  clear hIY hv hbC hbx hbl2 hbo hYz hYo hYl HI2
  obtain ⟨wd,hwd⟩:∃wd:World,wd={Y with drawn:=Y.drawn+1}:=⟨_,rfl⟩
  have hbd:Below Y.heap.size Y wd:=by rw [hwd];exact (Below.refl _ Y).drew
  have hxd:BoxH wd X.heap.size ⟨op2,nn2,s2,p2,pl2,pc2,q2,ql2,qc2,o2,k2,kl2,kc2⟩:=(hbd.block _ HBX.out.lt).trans HBX.out
  have hcd:Boxed wd (w.heap.size+1) 3 (.int .i64 v):=(hbd.block _ HBC.out.lt).trans HBC.out
  have fin:∀(a:Act) (Z:World),Below wd.heap.size wd Z→fitPost F2 (LowI W2.heap.size (DepQ w n be ob)) (fun _ _ _ _=>False) (ys++[(⟨op2,nn2,s2,p2,pl2,pc2,q2,ql2,qc2,o2,k2,kl2,kc2⟩,yx)]) Y .normal a (Z.setCell ⟨w.heap.size+1,0,none⟩ (.int .i64 (max v (depW n yx)))):=fun _ Z hZ=>by
   have hYZ:=below_step hbd hZ
   refine ⟨((Stays.refl _ _).grown (grown_below hYZ) (fun _ e=>by cases e)).grown (grownBy_setCell' _ _ _) (fun r e hr=>by cases e;have:=HIY.out.far _ hr;omega),HIY.out.far,Nat.le_trans HIY.out.size (Nat.le_trans hYZ.size (grownBy_setCell' Z _ _).size),?_,?_,?_⟩
   ·exact (below_step HBL.out hYZ).setCell (p:=⟨w.heap.size+1,0,none⟩) (by simp) _
   ·exact (Below.heap_setCell Z ⟨w.heap.size+1,0,none⟩ _ _ (by simp;omega)).trans ((hYZ.block _ (Array.getElem?_eq_some_iff.1 HIY.out.held.2.1).1).trans HIY.out.held.2.1)
   ·rw [List.map_append,List.map_append]
    show Boxed _ _ _ (.int .i64 (mxL (_++[depW n yx])))
    rw [mxL_snoc,HV.out]
    exact Boxed.set _ (show Boxed Z _ _ _ from (hYZ.block _ HBC.out.lt).trans HBC.out)
  refine wpIn_block ?_
  refine region_in (S:=fun w'=>BoxH w' X.heap.size ⟨op2,nn2,s2,p2,pl2,pc2,q2,ql2,qc2,o2,k2,kl2,kc2⟩) (by kernel_rfl) (noDefer_spec (by kernel_rfl)) (fun ⟨_,_,h⟩=>h) ?_
  rw [←hwd]
  clear hwd
  have cd:=hcd.cell
  refine take_at' (i:=1) 9 (v:= .agg #[.int .i64 op2,.int .i64 nn2,.string s2,.slice p2 pl2 pc2,.slice q2 ql2 qc2,.bool o2,.slice k2 kl2 kc2]) rfl rfl (by kernel_rfl) (by kernel_rfl) (by kernel_rfl) (fun _ _ _ h=>h) (Or.inl ⟨by rfl,fun w' hS=>(by
   obtain ⟨d0,d1,d2,d3,d4,d5,d6⟩:=hS.cells
   dsimp only at d0 d1 d2 d3 d4 d5 d6
   simp only [Nat.zero_add] at d1 d2 d3 d4 d5 d6
   go_simp)⟩) hxd ?_
  refine wpAnyH_all (rs:=[0,2]) (by kernel_rfl) (by simp) ?_
  intro i hi
  have hi2:i=0∨i=2:=by simpa using hi
  rcases hi2 with rfl|rfl
  ·refine value_at 8 (v:= .int .i64 v) (w':=wd) rfl rfl rfl (by go_simp) ⟨hxd,?_⟩
   refine wpAnyH_all (rs:=[2]) (by kernel_rfl) (by simp) ?_
   intro i hi
   obtain rfl:i=2:=by simpa using hi
   refine call_at 10 (f:=108) (args:=#[.agg #[.int .i64 op2,.int .i64 nn2,.string s2,.slice p2 pl2 pc2,.slice q2 ql2 qc2,.bool o2,.slice k2 kl2 kc2]]) (w':=wd) rfl rfl rfl (by go_simp) ((hO wd (below_step HBL.out hbd)).out.mono ?_)
   rintro e Z ⟨rfl,hZ⟩
   have hxz:BoxH Z X.heap.size ⟨op2,nn2,s2,p2,pl2,pc2,q2,ql2,qc2,o2,k2,kl2,kc2⟩:=(hZ.block _ hxd.lt).trans hxd
   have hcz:Boxed Z (w.heap.size+1) 3 (.int .i64 v):=(hZ.block _ hcd.lt).trans hcd
   have cz:=hcz.cell
   have fz:=hcz.frozen
   refine ⟨_,rfl,hxz,?_⟩
   refine wpAnyH_all (rs:=[3]) (by kernel_rfl) (by simp) ?_
   intro i hi
   obtain rfl:i=3:=by simpa using hi
   refine value_at 11 (v:= .int .i64 (max v (depW n yx))) (w':=Z) rfl rfl rfl (by go_simp) ⟨hxz,?_⟩
   refine wpAnyH_all (rs:=[4]) (by kernel_rfl) (by simp) ?_
   intro i hi
   obtain rfl:i=4:=by simpa using hi
   refine skip_at (w':=Z.setCell ⟨w.heap.size+1,0,none⟩ (.int .i64 (max v (depW n yx)))) rfl rfl rfl (by go_simp) ⟨(Below.heap_setCell Z ⟨w.heap.size+1,0,none⟩ _ _ (by simpa using hne.symm)).trans hxz,?_⟩
   refine wpAnyH_done (by kernel_rfl) ?_ _
   exact fin {tmps:=#[],defers:=[]} Z hZ
  ·refine call_at 10 (f:=108) (args:=#[.agg #[.int .i64 op2,.int .i64 nn2,.string s2,.slice p2 pl2 pc2,.slice q2 ql2 qc2,.bool o2,.slice k2 kl2 kc2]]) (w':=wd) rfl rfl rfl (by go_simp) ((hO wd (below_step HBL.out hbd)).out.mono ?_)
   rintro e Z ⟨rfl,hZ⟩
   have hxz:BoxH Z X.heap.size ⟨op2,nn2,s2,p2,pl2,pc2,q2,ql2,qc2,o2,k2,kl2,kc2⟩:=(hZ.block _ hxd.lt).trans hxd
   have hcz:Boxed Z (w.heap.size+1) 3 (.int .i64 v):=(hZ.block _ hcd.lt).trans hcd
   have cz:=hcz.cell
   have fz:=hcz.frozen
   refine ⟨_,rfl,hxz,?_⟩
   refine wpAnyH_all (rs:=[0]) (by kernel_rfl) (by simp) ?_
   intro i hi
   obtain rfl:i=0:=by simpa using hi
   refine value_at 8 (v:= .int .i64 v) (w':=Z) rfl rfl rfl (by go_simp) ⟨hxz,?_⟩
   refine wpAnyH_all (rs:=[3]) (by kernel_rfl) (by simp) ?_
   intro i hi
   obtain rfl:i=3:=by simpa using hi
   refine value_at 11 (v:= .int .i64 (max v (depW n yx))) (w':=Z) rfl rfl rfl (by go_simp) ⟨hxz,?_⟩
   refine wpAnyH_all (rs:=[4]) (by kernel_rfl) (by simp) ?_
   intro i hi
   obtain rfl:i=4:=by simpa using hi
   refine skip_at (w':=Z.setCell ⟨w.heap.size+1,0,none⟩ (.int .i64 (max v (depW n yx)))) rfl rfl rfl (by go_simp) ⟨(Below.heap_setCell Z ⟨w.heap.size+1,0,none⟩ _ _ (by simpa using hne.symm)).trans hxz,?_⟩
   refine wpAnyH_done (by kernel_rfl) ?_ _
   exact fin {tmps:=#[],defers:=[]} Z hZ
 case done=>
  rintro D F2 ys X hD hys hI2 hKD
  have hXC:=hI2.held.2.2
  have cc:=hXC.cell
  have HI2:=Lib.hid hI2
  have HKD:=Lib.hid hKD
  have HYS:=Lib.hid hys
  obtain ⟨v,hv⟩:∃v,mxL ((ys.map (·.2)).map (depW n))=v:=⟨_,rfl⟩
  rw [hv] at cc
  have HV:=Lib.hid hv
  clear hI2 hKD hys hv hXC
  gi_wp2
  refine ⟨by simp,.inl ⟨_,_,rfl,run_takeDeferred HKD.out,?_⟩⟩
  refine ⟨_,results_tmp rfl _ _ _,?_,?_⟩
  ·exact ret_int (by rw [←HV.out,HYS.out];rfl)
  ·exact HI2.out.held.1.grown (grownBy_putObj' _ _ _) (Nat.le_trans hB2.size HI2.out.size) (fun r e=>by cases e;have:=HI2.out.far _ hD;have:=hB2.size;omega)
 case stop=>
  rintro D F2 c ys X hD hys hI2 hKD
  exact hI2.elim
theorem depth_any (w0:World):∀(n:Nat) (h:Hd) (x:Ex) (w:World),InX w0 n h x→Below w0.heap.size w0 w→Calls Tryz.prog 108 #[h.agg] w (IntP (depW n x) w)
 |0,_,_,_,h,_=>h.elim
 |n+1,h,x,w,hx,hb=>depth_step w0 n (depth_any w0 n) h x w hx hb
end Go.Proofs.YtkfihhagcimcmaaGreatDoor
namespace Go.Proofs.YtkfihhagcimcmaaGreatDoor.Nm
open Go.RowKit
end Go.Proofs.YtkfihhagcimcmaaGreatDoor.Nm
namespace Go.Proofs.YtkfihhagcimcmaaGreatDoor
open Go.RowKit
noncomputable def eqB {α:Type} (a b:α):Bool:= @decide (a=b) (Classical.propDecidable _)
theorem eqB_yes {α:Type} {a b:α} (h:a=b):eqB a b=true:=by unfold eqB;exact @decide_eq_true _ (Classical.propDecidable _) h
theorem eqB_no {α:Type} {a b:α} (h:¬a=b):eqB a b=false:=by unfold eqB;exact @decide_eq_false _ (Classical.propDecidable _) h
theorem of_eqB {α:Type} {a b:α} (h:eqB a b=true):a=b:=by unfold eqB at h;exact @of_decide_eq_true _ (Classical.propDecidable _) h
theorem not_eqB {α:Type} {a b:α} (h:eqB a b=false):¬a=b:=by unfold eqB at h;exact @of_decide_eq_false _ (Classical.propDecidable _) h
theorem sameB_eq (xs ys:List ByteArray):Nm.sameB xs ys=eqB xs ys:=by
 by_cases e:xs=ys
 ·rw [eqB_yes e,e];simp [Nm.sameB]
 ·rw [eqB_no e]
  refine decide_eq_false fun h=>e ?_
  refine List.ext_getElem (by have:=congrArg List.length h;simpa [Nm.bl] using this) fun i h1 h2=>?_
  have h3:(Nm.bl xs)[i]'(by simpa [Nm.bl] using h1)=(Nm.bl ys)[i]'(by simpa [Nm.bl] using h2):=by simp only [h]
  simp only [Nm.bl,List.getElem_map] at h3
  exact ByteArray.ext (Array.toList_inj.1 h3)
theorem rsame_eq (a a':Option Addr) (len cap len' cap':Nat) (xs ys:List ByteArray) (w:World) (hS:Nm.StrRow w a len xs) (hT:Nm.StrRow w a' len' ys):Calls Tryz.prog 62 #[.slice a len cap,.slice a' len' cap'] w (BoolP (eqB xs ys) w):=by
 rw [←sameB_eq];exact Nm.same_any a a' len cap len' cap' xs ys w hS hT
theorem take_all {α:Type} {xs ys:List α} (hl:xs.length=ys.length) (h:xs.take xs.length=ys.take xs.length):xs=ys:=by
 rw [List.take_length,hl,List.take_length] at h;exact h
theorem take_next {α:Type} {xs ys:List α} {k:Nat} (h1:k<xs.length) (h2:k<ys.length) (h:xs.take k=ys.take k) (e:xs[k]=ys[k]):xs.take (k+1)=ys.take (k+1):=by
 rw [List.take_succ_eq_append_getElem h1,List.take_succ_eq_append_getElem h2,h,e]
end Go.Proofs.YtkfihhagcimcmaaGreatDoor
namespace Go.Proofs.YtkfihhagcimcmaaGreatDoor
open Go.RowKit
def Hd.pair (h:Hd) (nm:ByteArray):Value:= .agg #[.string nm,.int .i64 h.op,.int .i64 h.n,.string h.s,.slice h.p h.pl h.pc,.slice h.q h.ql h.qc,.bool h.o,.slice h.k h.kl h.kc]
end Go.Proofs.YtkfihhagcimcmaaGreatDoor
namespace Go.Proofs.YtkfihhagcimcmaaGreatDoor
open Go.RowKit
theorem text_ne {a b:ByteArray} (h:(a.toList==b.toList)=false):¬a=b:=fun e=>by subst e;simp at h
theorem text_eq {a b:ByteArray} (h:(a.toList==b.toList)=true):a=b:=by
 rw [Lib.toList_data,Lib.toList_data] at h
 exact ByteArray.ext (Array.toList_inj.1 (by simpa using h))
theorem mk_inj {op n:Int} {s:ByteArray} {pa:List ByteArray} {ps:List (ByteArray×Ex)} {o:Bool} {ks:List Ex} {op2 n2:Int} {s2:ByteArray} {pa2:List ByteArray} {ps2:List (ByteArray×Ex)} {o2:Bool} {ks2:List Ex}:
  Ex.mk op n s pa ps o ks=Ex.mk op2 n2 s2 pa2 ps2 o2 ks2↔op=op2∧n=n2∧s=s2∧pa=pa2∧ps=ps2∧o=o2∧ks=ks2:=
 ⟨fun e=>by injection e with h1 h2 h3 h4 h5 h6 h7;exact ⟨h1,h2,h3,h4,h5,h6,h7⟩,fun ⟨h1,h2,h3,h4,h5,h6,h7⟩=>by rw [h1,h2,h3,h4,h5,h6,h7]⟩
end Go.Proofs.YtkfihhagcimcmaaGreatDoor
