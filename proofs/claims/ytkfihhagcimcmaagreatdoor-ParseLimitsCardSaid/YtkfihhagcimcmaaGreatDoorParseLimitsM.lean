/- ParseLimits: for every kind and number the law returns true and nothing that was there is changed; the tables of words and of signs are tied to the text; no other condition. -/
import Derived.Test.YtkfihhagcimcmaaGreatDoorCards
import Derived.Test.YtkfihhagcimcmaaGreatDoorChecked
import Derived.Test.YtkfihhagcimcmaaGreatDoorProg
import Derived.Test.YtkfihhagcimcmaaGreatDoorTie
import Derived.Test.YtkfihhagcimcmaaGreatDoorY2
import Derived.Test.YtkfihhagcimcmaaGreatDoorYby
import Derived.Test.YtkfihhagcimcmaaGreatDoorYcc
namespace Go.Proofs.YtkfihhagcimcmaaGreatDoor
open Go.ChangeShapes Go.WideShapes Go.ChangeAt Go.RowKit
open Go.ChangeMaps (open_string shut_string)
theorem laidOut:laidOutB Tryz.prog=true:=by kernel_rfl
set_option maxRecDepth 100000 in
theorem parseLimits_lifted (os:Os) (started:os.Started) (H:Type) (enc:TypeId×Value→H):
  ReturnsInHanded {} Tryz.checked os 5 .any (fun w args=>(Rows.parseLimitsSpec.pre enc Tryz.prog Tryz.f5 Rows.parseLimitsRow.domain false w args∧laidMetH Tryz.prog Rows.parseLimitsRow.laid w)∧sizedMet enc Tryz.prog Tryz.f5 (OpenSpec.ofChange Rows.parseLimitsSpec) false w args)
   (Rows.parseLimitsSpec.post enc Tryz.prog Tryz.f5 false true false false):=by
 refine returns_shaped_and (C:=Tryz.checked) (X:=fun w _=>laidMetH Tryz.prog Rows.parseLimitsRow.laid w) (fun _ _ _ hh h=>h.of_heap hh) own started (by kernel_rfl) Tryz.func5
  (ChangeSpec.witness_shaped (enc:=enc) (C:=Tryz.checked) (os:=os) (X:=fun w _=>laidMetH Tryz.prog Rows.parseLimitsRow.laid w) false (World.laidAll Tryz.prog os Rows.parseLimitsRow.laid) #[.int .u8 0,.int .u16 0] 8 (World.laidAll_os _ _ _)
   (World.shaped_of_ZipB (by kernel_rfl) (by kernel_rfl)) (by kernel_rfl) (by kernel_rfl) (by kernel_rfl)
   (by rw [MakeChecks.laidMetH_plain _ _ _ (by kernel_rfl)];exact laidMet_laidAll _ (by kernel_rfl) (by kernel_rfl))) ?_
 intro W base args ds gs before hval0 hW hsz0 hL _
 have hval:∀(j:Nat) t v,Tryz.f5.params[j]?=some t→args[j]?=some v→Value.okWide Tryz.prog W .any base t v:=hval0
 have hsz:(DataW.weightsEach Tryz.prog (Tryz.f5.params.toList++Rows.parseLimitsSpec.plain.varTypes Tryz.prog) (ds++gs)).all (· ≤reachBytes)=true:=hsz0
 have hW':=hW
 obtain ⟨p,q,hA0,hV,rfl,hfz,hnd⟩:=hW
 have hA:DataW.TrodAll enc Tryz.prog W 0 (fun _=>true) true Tryz.f5.params.toList args.toList ds p:=hA0
 rw [Tryz.params5] at hA hval hsz
 obtain ⟨v0,vs0,d0,ds0,p0,q0,hargs,rfl,rfl,h0,r0⟩:=trodAll_cons hA
 obtain ⟨v1,vs1,d1,ds1,p1,q1,rfl,rfl,rfl,h1,r1⟩:=trodAll_cons r0
 obtain ⟨rfl,rfl,rfl⟩:=trodAll_nil r1
 obtain rfl:args=#[v0,v1]:=by cases args;simp_all
 obtain ⟨rfl,rfl⟩:=trodVars_none hV
 obtain ⟨ka,rfl⟩:=okWide_int Tryz.underlying5 (hval 0 5 v0 rfl rfl)
 have hka:0≤ka∧ka≤255:=by
  obtain ⟨fu,hf⟩:=h0
  obtain ⟨m',e,_,hwf⟩:=DataW.trod_int Tryz.underlying5 hf
  have e2:ka=m':=by simpa [Value.cells] using e
  subst e2
  have h2:(decide ((0:Int)≤ka)&&decide (ka≤(255:Int)))=true:=hwf
  simpa using h2
 obtain ⟨na,rfl⟩:=okWide_int Tryz.underlying42 (hval 1 42 v1 rfl rfl)
 have hna:0≤na∧na≤65535:=by
  obtain ⟨fu,hf⟩:=h1
  obtain ⟨m',e,_,hwf⟩:=DataW.trod_int Tryz.underlying42 hf
  have e2:na=m':=by simpa [Value.cells] using e
  subst e2
  have h2:(decide ((0:Int)≤na)&&decide (na≤(65535:Int)))=true:=hwf
  simpa using h2
 have lt0:∀x∈p0,x.block<W.heap.size:=by obtain ⟨m,hm⟩:=h0;exact DataW.trod_lt m _ _ _ hm
 have lt1:∀x∈p1,x.block<W.heap.size:=by obtain ⟨m,hm⟩:=h1;exact DataW.trod_lt m _ _ _ hm
 have hE:=ent_of hL
 clear hA0 hval0 hsz0
 simp only [List.append_nil] at hW'
 refine (Ps.limits_walk ka na W hE hka hna).mono fun e W' ⟨he,hg⟩=>?_
 subst he
 exact ⟨_,rfl,_,_,_,[],_,[],hW',trodAll_mk1 (shut_bool Tryz.underlying4 _),(trodAll_cons_mk (Below.trod laidOut (by kernel_rfl) (of_decide_eq_true (by kernel_rfl)) h0 hg lt0) (trodAll_cons_mk (Below.trod laidOut (by kernel_rfl) (of_decide_eq_true (by kernel_rfl)) h1 hg lt1) trodAll_mk0)),rfl,hg.frame _,fun h=>by cases h⟩
theorem parseLimits_row:Rows.ParseLimitsSaid:=
 OpenClaim.holds_of_wide 5 Tryz.f5 rfl rfl rfl rfl rfl rfl rfl ⟨rfl,rfl,rfl,rfl,rfl⟩ rfl rfl rfl rfl rfl (by kernel_rfl) Tryz.func5 (by kernel_rfl)
  (of_decide_eq_true (by kernel_rfl)) (by unfold Func.isWrapper;first|(rw [if_pos (by decide+kernel)];kernel_rfl)|(rw [if_neg (by decide+kernel)];exact ⟨rfl,rfl⟩))
  (fun os started H enc _=>parseLimits_lifted os started H enc)
theorem parseLimits_holds:Rows.ParseLimitsCardSaid:=
 Claim7.holds_tied_plain_at .later [] [.data,.data] true (true, "24fd53f39094160e2bdec91d0377039883aceb89cf5b06f6d1929b0deec91b61") true parseLimits_row (fun _ h=>by cases h) (by kernel_rfl) (fun _ h=>by cases h) parseLimits_row_tie rfl ⟨rfl,rfl⟩ (by kernel_rfl) rfl
  (fun f fn hf hfn=>by
   obtain rfl:f=5:=Option.some.inj ((show Tryz.prog.funcNamed "treillage/treillagelaw14.ParseLimits" =some 5 by kernel_rfl).symm.trans hf)|>.symm
   obtain rfl:fn=Tryz.f5:=(Option.some.inj (Tryz.func5.symm.trans hfn)).symm
   exact ⟨by kernel_rfl,fun j t ht=>by
    rw [Tryz.params5] at ht
    have hm:t∈[5,42]:=by simpa using Array.mem_of_getElem? ht
    have hall:([5,42].all fun u=>!Tryz.prog.wantsStandIn u)=true:=by kernel_rfl
    exact (show Tryz.prog.wantsStandIn t=false by simpa using List.all_eq_true.1 hall t hm)⟩)
  (by kernel_rfl)
end Go.Proofs.YtkfihhagcimcmaaGreatDoor
