/- K -/
import Derived.Test.YtkfihhagcimcmaaGreatDoorCards
import Derived.Test.YtkfihhagcimcmaaGreatDoorChecked
import Derived.Test.YtkfihhagcimcmaaGreatDoorProg
import Derived.Test.YtkfihhagcimcmaaGreatDoorTie
import Derived.Test.YtkfihhagcimcmaaGreatDoorY2
import Derived.Test.YtkfihhagcimcmaaGreatDoorYat
namespace Go.Proofs.YtkfihhagcimcmaaGreatDoor
open Go.ChangeShapes Go.WideShapes Go.ChangeAt Go.RowKit
open Go.ChangeMaps (open_string shut_string)
theorem own:ownKnob Tryz.prog.godebug=none:=by kernel_rfl
theorem returns_shaped_and {H:Type} {enc:TypeId×Value→H} {a:Assume} {C:Checked} {os:Os} {f:FuncId} {fn:Func} {s:ChangeSpec} {conds:List PathCond} {apart fresh handsOn again:Bool} {X:World→Array Value→Prop}
  (hX:∀(w w':World) (args:Array Value),w.heap=w'.heap→X w args→X w' args)
  (hown:ownKnob C.prog.godebug=none) (started:os.Started) (noInit:C.prog.inits.idxOf? f=none) (hfn:C.prog.funcs[f]?=some fn)
  (witness:∃(w:World) (tape:Tape) (i:Input),w.os=os∧(w.forCall tape i).Shaped C.prog∧i.vars=[]∧Input.okWide C.prog (w.forCall tape i) .any w.heap.size f i∧
   ((s.pre enc C.prog fn conds apart (w.forCall tape i).memory i.args∧X (w.forCall tape i).memory i.args)∧sizedMet enc C.prog fn (OpenSpec.ofChange s) apart (w.forCall tape i).memory i.args)∧a.holds C.prog (lone (Frame.enter C.prog f i.args .normal) [] (w.forCall tape i)))
  (contract:∀(W:World) (base:Nat) (args:Array Value) (ds gs:List (DataW H)) (before:List MemPlace),
   (∀(j:Nat) t v,fn.params[j]?=some t→args[j]?=some v→Value.okWide C.prog W .any base t v)→
   DataW.Whole enc C.prog fn.params.toList s.vars apart W args.toList ds gs before→
   (DataW.weightsEach C.prog (fn.params.toList++s.plain.varTypes C.prog) (ds++gs)).all (· ≤reachBytes)=true→X W args→W.ShapedOpen C.prog→
   Calls C.prog f args W fun e W'=>∃v,e= .returned v∧s.post enc C.prog fn apart fresh handsOn again W args v W'):
  ReturnsInHanded a C os f .any (fun w args=>(s.pre enc C.prog fn conds apart w args∧X w args)∧sizedMet enc C.prog fn (OpenSpec.ofChange s) apart w args) (s.post enc C.prog fn apart fresh handsOn again):=by
 refine returnsInHanded_of_calls hown started noInit witness fun w tape i _ hsh _ hok hpre _=>?_
 obtain ⟨_,_,_,fn2,hfn2,_,_,_,_,hval⟩:=hok
 obtain rfl:fn2=fn:=Option.some.inj (hfn2.symm.trans hfn)
 obtain ⟨⟨⟨ds,gs,before,hw,_⟩,hx⟩,hz⟩:=hpre
 refine (contract (w.forCall tape i) w.heap.size i.args ds gs before hval (DataW.Whole.of_heap (w':=w.forCall tape i) (by rfl) hw) (hz.weights hw) (hX _ _ _ (by rfl) hx) hsh).mono fun e W' ⟨v,he,hp⟩=>?_
 subst he
 exact ChangeSpec.post_blind hp
theorem words_cells {W:World} (h:laidMetH Tryz.prog Rows.parseReadsRow.laid W):∀r,r<9→W.cell? ⟨4,r,none⟩=some (.string (Nm.wordAt r)):=by
 intro r hr
 rw [MakeChecks.laidMetH_plain _ _ _ (by kernel_rfl)] at h
 obtain ⟨ps,hL,_,_⟩:=h
 simp only [Rows.parseReadsRow,DataW.LaidVars] at hL
 obtain ⟨g,t,cs,fuel,p,q,hg,ht,hv,hd,_,_⟩:=hL
 obtain rfl:=Option.some.inj ((show Tryz.prog.globalNamed "treillage/name.words" =some 4 by kernel_rfl).symm.trans hg)
 obtain rfl:=Option.some.inj ((show (Tryz.prog.globals[4]?).map (·.type)=some 209 by kernel_rfl).symm.trans ht)
 obtain ⟨xs,m,_,ex,_,hl,hel⟩:=DataW.trod_array Tryz.underlying209 hd
 have c9:Tryz.prog.cellsOf 9=1:=by kernel_rfl
 have hE:=hel r hr
 rw [c9,Nat.mul_one,List.getElem?_eq_getElem (by omega)] at hE
 obtain ⟨s,e1,e2,_⟩:=DataW.trod_string Tryz.underlying9 hE
 have e3:(xs.map (·.1))=Nm.wordsL.map fun l=>(DataW.lit (.string l):DataW Unit):=(DataW.agg.inj (Prod.mk.inj ex).1).symm
 have e4:(xs.map (·.1))[r]?=(Nm.wordsL.map fun l=>(DataW.lit (.string l):DataW Unit))[r]?:=by rw [e3]
 have hlen:Nm.wordsL.length=9:=rfl
 rw [List.getElem?_map,List.getElem?_map,List.getElem?_eq_getElem (by omega:r<xs.length),List.getElem?_eq_getElem (by omega:r<Nm.wordsL.length),e2] at e4
 have hs:s=Nm.wordAt r:=by
  simp only [Option.map_some,Option.some.injEq,DataW.lit.injEq,Lit.string.injEq] at e4
  unfold Nm.wordAt
  rw [List.getD,List.getElem?_eq_getElem (by omega:r<Nm.wordsL.length),Option.getD_some,←e4]
 rw [World.var?_cell hg hv r,←hs]
 have h0:((cs.toList.drop r).take 1)[0]?=some (.string s):=by rw [e1];rfl
 simpa using h0
theorem signs_cells {W:World} (h:laidMetH Tryz.prog Rows.parseReadsRow.laid W):∀r,r<15→W.cell? ⟨6,r,none⟩=some (.string (Lx.signAt r)):=by
 intro r hr
 rw [MakeChecks.laidMetH_plain _ _ _ (by kernel_rfl)] at h
 obtain ⟨ps,hL,_,_⟩:=h
 simp only [Rows.parseReadsRow,DataW.LaidVars] at hL
 obtain ⟨_,_,_,_,_,_,_,_,_,_,⟨g,t,cs,fuel,p,q,hg,ht,hv,hd,_,_⟩,_⟩:=hL
 obtain rfl:=Option.some.inj ((show Tryz.prog.globalNamed "treillage/token.signs" =some 6 by kernel_rfl).symm.trans hg)
 obtain rfl:=Option.some.inj ((show (Tryz.prog.globals[6]?).map (·.type)=some 246 by kernel_rfl).symm.trans ht)
 obtain ⟨xs,m,_,ex,_,hl,hel⟩:=DataW.trod_array Tryz.underlying246 hd
 have c9:Tryz.prog.cellsOf 9=1:=by kernel_rfl
 have hE:=hel r hr
 rw [c9,Nat.mul_one,List.getElem?_eq_getElem (by omega)] at hE
 obtain ⟨s,e1,e2,_⟩:=DataW.trod_string Tryz.underlying9 hE
 have e3:(xs.map (·.1))=Lx.signsL.map fun l=>(DataW.lit (.string l):DataW Unit):=(DataW.agg.inj (Prod.mk.inj ex).1).symm
 have e4:(xs.map (·.1))[r]?=(Lx.signsL.map fun l=>(DataW.lit (.string l):DataW Unit))[r]?:=by rw [e3]
 have hlen:Lx.signsL.length=15:=rfl
 rw [List.getElem?_map,List.getElem?_map,List.getElem?_eq_getElem (by omega:r<xs.length),List.getElem?_eq_getElem (by omega:r<Lx.signsL.length),e2] at e4
 have hs:s=Lx.signAt r:=by
  simp only [Option.map_some,Option.some.injEq,DataW.lit.injEq,Lit.string.injEq] at e4
  unfold Lx.signAt
  rw [List.getD,List.getElem?_eq_getElem (by omega:r<Lx.signsL.length),Option.getD_some,←e4]
 rw [World.var?_cell hg hv r,←hs]
 have h0:((cs.toList.drop r).take 1)[0]?=some (.string s):=by rw [e1];rfl
 simpa using h0
theorem ent_of {W:World} (h:laidMetH Tryz.prog Rows.parseReadsRow.laid W):Lx.Ent W:=
 ⟨⟨words_cells h,by have:=World.block_lt_of_cell? _ _ (signs_cells h 0 (by decide));exact this⟩,signs_cells h⟩
theorem reach47 {n:Nat} (h:n≤reachBytes):n≤140737488355328:=by
 have:=reachBytes_lt;omega
end Go.Proofs.YtkfihhagcimcmaaGreatDoor
