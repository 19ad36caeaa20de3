/- ParseExprs: for every text the law returns true and nothing that was there is changed; the tables of words and of signs are tied to the text; no other condition. -/
import Derived.Test.YtkfihhagcimcmaaGreatDoorCards
import Derived.Test.YtkfihhagcimcmaaGreatDoorChecked
import Derived.Test.YtkfihhagcimcmaaGreatDoorProg
import Derived.Test.YtkfihhagcimcmaaGreatDoorTie
import Derived.Test.YtkfihhagcimcmaaGreatDoorY2
import Derived.Test.YtkfihhagcimcmaaGreatDoorYcb
import Derived.Test.YtkfihhagcimcmaaGreatDoorYcc
namespace Go.Proofs.YtkfihhagcimcmaaGreatDoor
open Go.ChangeShapes Go.WideShapes Go.ChangeAt Go.RowKit
open Go.ChangeMaps (open_string shut_string)
set_option maxRecDepth 100000 in
theorem parseExprs_lifted (os:Os) (started:os.Started) (H:Type) (enc:TypeId×Value→H):
  ReturnsInHanded {} Tryz.checked os 4 .any (fun w args=>(Rows.parseExprsSpec.pre enc Tryz.prog Tryz.f4 Rows.parseExprsRow.domain false w args∧laidMetH Tryz.prog Rows.parseExprsRow.laid w)∧sizedMet enc Tryz.prog Tryz.f4 (OpenSpec.ofChange Rows.parseExprsSpec) false w args)
   (Rows.parseExprsSpec.post enc Tryz.prog Tryz.f4 false true false false):=by
 refine returns_shaped_and (C:=Tryz.checked) (X:=fun w _=>laidMetH Tryz.prog Rows.parseExprsRow.laid w) (fun _ _ _ hh h=>h.of_heap hh) own started (by kernel_rfl) Tryz.func4
  (ChangeSpec.witness_shaped (enc:=enc) (C:=Tryz.checked) (os:=os) (X:=fun w _=>laidMetH Tryz.prog Rows.parseExprsRow.laid w) false (World.laidAll Tryz.prog os Rows.parseExprsRow.laid) #[.string ByteArray.empty] 8 (World.laidAll_os _ _ _)
   (World.shaped_of_ZipB (by kernel_rfl) (by kernel_rfl)) (by kernel_rfl) (by kernel_rfl) (by kernel_rfl)
   (by rw [MakeChecks.laidMetH_plain _ _ _ (by kernel_rfl)];exact laidMet_laidAll _ (by kernel_rfl) (by kernel_rfl))) ?_
 intro W base args ds gs before hval0 hW hsz0 hL _
 have hval:∀(j:Nat) t v,Tryz.f4.params[j]?=some t→args[j]?=some v→Value.okWide Tryz.prog W .any base t v:=hval0
 have hsz:(DataW.weightsEach Tryz.prog (Tryz.f4.params.toList++Rows.parseExprsSpec.plain.varTypes Tryz.prog) (ds++gs)).all (· ≤reachBytes)=true:=hsz0
 have hW':=hW
 obtain ⟨p,q,hA0,hV,rfl,hfz,hnd⟩:=hW
 have hA:DataW.TrodAll enc Tryz.prog W 0 (fun _=>true) true Tryz.f4.params.toList args.toList ds p:=hA0
 rw [Tryz.params4] at hA hval hsz
 obtain ⟨v0,vs0,d0,ds0,p0,q0,hargs,rfl,rfl,h0,r0⟩:=trodAll_cons hA
 obtain ⟨rfl,rfl,rfl⟩:=trodAll_nil r0
 obtain rfl:args=#[v0]:=by cases args;simp_all
 obtain ⟨rfl,rfl⟩:=trodVars_none hV
 obtain ⟨a0,rfl,rfl,rfl,w0⟩:=open_string Tryz.underlying9 (hval 0 9 v0 rfl rfl) h0
 have z0:a0.size≤140737488355328:=by
  have:=sized_string hsz (j:=0) (t:=9) rfl rfl
  rw [Nm.size_list,Lib.toList_data];exact reach47 this
 simp only [List.append_nil] at hW'
 have hE:=ent_of hL
 refine (Ps.exprs_walk a0 W hE z0).mono fun e W' ⟨he,hg⟩=>?_
 subst he
 exact ⟨_,rfl,_,_,_,[],_,[],hW',trodAll_mk1 (shut_bool Tryz.underlying4 _),(trodAll_cons_mk (shut_string Tryz.underlying9 w0) trodAll_mk0),rfl,hg.frame _,fun h=>by cases h⟩
theorem parseExprs_row:Rows.ParseExprsSaid:=
 OpenClaim.holds_of_wide 4 Tryz.f4 rfl rfl rfl rfl rfl rfl rfl ⟨rfl,rfl,rfl,rfl,rfl⟩ rfl rfl rfl rfl rfl (by kernel_rfl) Tryz.func4 (by kernel_rfl)
  (of_decide_eq_true (by kernel_rfl)) (by unfold Func.isWrapper;first|(rw [if_pos (by decide+kernel)];kernel_rfl)|(rw [if_neg (by decide+kernel)];exact ⟨rfl,rfl⟩))
  (fun os started H enc _=>parseExprs_lifted os started H enc)
theorem parseExprs_holds:Rows.ParseExprsCardSaid:=
 Claim7.holds_tied_plain_at .later [] [.data,.data] true (true, "24fd53f39094160e2bdec91d0377039883aceb89cf5b06f6d1929b0deec91b61") true parseExprs_row (fun _ h=>by cases h) (by kernel_rfl) (fun _ h=>by cases h) parseExprs_row_tie rfl ⟨rfl,rfl⟩ (by kernel_rfl) rfl
  (fun f fn hf hfn=>by
   obtain rfl:f=4:=Option.some.inj ((show Tryz.prog.funcNamed "treillage/treillagelaw14.ParseExprs" =some 4 by kernel_rfl).symm.trans hf)|>.symm
   obtain rfl:fn=Tryz.f4:=(Option.some.inj (Tryz.func4.symm.trans hfn)).symm
   exact ⟨by kernel_rfl,fun j t ht=>by
    rw [Tryz.params4] at ht
    have hm:t∈[9]:=by simpa using Array.mem_of_getElem? ht
    have hall:([9].all fun u=>!Tryz.prog.wantsStandIn u)=true:=by kernel_rfl
    exact (show Tryz.prog.wantsStandIn t=false by simpa using List.all_eq_true.1 hall t hm)⟩)
  (by kernel_rfl)
end Go.Proofs.YtkfihhagcimcmaaGreatDoor
