/- LWj, LWk, LXa, LXb, LXc, LXd, LXe, LXf, LXg, LXh -/
import Derived.Test.YtkfihhagcimcmaaGreatDoorChecked
import Derived.Test.YtkfihhagcimcmaaGreatDoorProg
import Derived.Test.YtkfihhagcimcmaaGreatDoorY0
import Derived.Test.YtkfihhagcimcmaaGreatDoorYas
import Derived.Test.YtkfihhagcimcmaaGreatDoorYat
import Derived.Test.YtkfihhagcimcmaaGreatDoorYau
namespace Go.Proofs.YtkfihhagcimcmaaGreatDoor.Lx
open Go.RowKit
theorem Tz.new (w:World):Tz (w.alloc (.cells #[.int .i64 0,.int .i64 0,.string {data:=#[]},.int .i64 0] 155)) w.heap.size:=⟨by simp,fun _=>World.frozen?_alloc_new ..,by simp,by simp,by simp,by simp⟩
theorem TkP.of {r:Int×Tk×Nat} {k n E:Int} {t:ByteArray} {z:Nat} {w:World} {e:Ending} {w':World} (h:TkP r w e w') (hr:r=(E,⟨k,n,t.toList⟩,z)):e= .returned (.tuple #[.agg #[.int .i64 k,.int .i64 n,.string t,.int .i64 0],.int .i64 (z:Int),.int .i64 E])∧Below w.heap.size w w':=by
  subst hr
  have:=h.1
  rw [show bs t.toList=t from bs_of t] at this
  exact ⟨this,h.2⟩
set_option maxRecDepth 100000 in
set_option maxHeartbeats 2000000 in
theorem first_any (s:ByteArray) (k n E:Int) (t:ByteArray) (z:Nat) (w:World) (hE:Ent w) (hs:s.size≤140737488355328) (h0:0<s.size) (hr:firstL s.toList=(E,⟨k,n,t.toList⟩,z)):
    Calls Tryz.prog 163 #[.string s] w fun e w'=>e= .returned (.tuple #[.agg #[.int .i64 k,.int .i64 n,.string t,.int .i64 0],.int .i64 (z:Int),.int .i64 E])∧Below w.heap.size w w':=by
  have ed:=drop_at s 0 h0
  rw [List.drop_zero,Nat.zero_add] at ed
  have hf:firstL s.toList=if dgB s[0]=true then numberL s.toList else if lwB s[0]=true then wordL s.toList else if (s[0].toNat:Int)=34 then textL s.toList else signR s.toList:=by
    conv=>lhs;rw [ed]
    rw [firstL_cons,←ed]
  rw [hf] at hr
  clear hf ed
  have HE:=Lib.hid hE
  clear hE
  cases hd:dgB s[0]
  · rw [hd,if_neg (by decide)] at hr
    have HD:=Lib.hid hd
    clear hd
    cases hl:lwB s[0]
    · rw [hl,if_neg (by decide)] at hr
      have HL:=Lib.hid hl
      clear hl
      cases hq:((s[0].toNat:Int)==34)
      · rw [if_neg (by simpa using hq)] at hr
        have HC:Hid (∀W,Below w.heap.size w W→Calls Tryz.prog 203 #[.string s] W fun e w'=>e= .returned (.tuple #[.agg #[.int .i64 k,.int .i64 n,.string t,.int .i64 0],.int .i64 (z:Int),.int .i64 E])∧Below W.heap.size W w'):=Lib.hid (fun W hW=>(sign_any s W (HE.out.below hW)).mono fun _ _ h=>h.of hr)
        clear hr
        go_enter Tryz.func163,Tryz.ntmps163
        go_wp2_with (first|(go_at_call 198;((with_reducible refine (isdigit_as _ _ _ HD).mono ?_);rintro e w' ⟨rfl,rfl⟩))|(go_at_call 200;((with_reducible refine (isletter_as _ _ _ HL).mono ?_);rintro e w' ⟨rfl,rfl⟩))|(go_at_call 203;((with_reducible refine (HC.out _ (bl_alloc (Below.refl _ _))).mono ?_);rintro e w1 ⟨rfl,hb⟩;obtain ⟨hz,hf,c0,c1,c2,c3⟩:=(Tz.new w).later hb;have HB:=Lib.hid (bl_step (bl_alloc (Below.refl w.heap.size w)) hb);clear hb)))
        obtain ⟨k0,k1,k2,k3⟩:=set4 (.int .i64 k) (.int .i64 n) (.string t) (.int .i64 0) c0 c1 c2 c3
        exact bodyPost_ret (v:= .tuple #[.agg #[.int .i64 k,.int .i64 n,.string t,.int .i64 0],.int .i64 (z:Int),.int .i64 E]) (by simp [results,Tryz.results163,go_sem,k0,k1,k2,k3]) rfl ⟨rfl,bl_set4 HB.out (Nat.le_refl _)⟩
      · rw [if_pos (by simpa using hq)] at hr
        have HC:Hid (∀W,Below w.heap.size w W→Calls Tryz.prog 202 #[.string s] W fun e w'=>e= .returned (.tuple #[.agg #[.int .i64 k,.int .i64 n,.string t,.int .i64 0],.int .i64 (z:Int),.int .i64 E])∧Below W.heap.size W w'):=Lib.hid (fun W hW=>(text_any s W hs h0).mono fun _ _ h=>h.of hr)
        clear hr
        go_enter Tryz.func163,Tryz.ntmps163
        go_wp2_with (first|(go_at_call 198;((with_reducible refine (isdigit_as _ _ _ HD).mono ?_);rintro e w' ⟨rfl,rfl⟩))|(go_at_call 200;((with_reducible refine (isletter_as _ _ _ HL).mono ?_);rintro e w' ⟨rfl,rfl⟩))|(go_at_call 202;((with_reducible refine (HC.out _ (bl_alloc (Below.refl _ _))).mono ?_);rintro e w1 ⟨rfl,hb⟩;obtain ⟨hz,hf,c0,c1,c2,c3⟩:=(Tz.new w).later hb;have HB:=Lib.hid (bl_step (bl_alloc (Below.refl w.heap.size w)) hb);clear hb)))
        obtain ⟨k0,k1,k2,k3⟩:=set4 (.int .i64 k) (.int .i64 n) (.string t) (.int .i64 0) c0 c1 c2 c3
        exact bodyPost_ret (v:= .tuple #[.agg #[.int .i64 k,.int .i64 n,.string t,.int .i64 0],.int .i64 (z:Int),.int .i64 E]) (by simp [results,Tryz.results163,go_sem,k0,k1,k2,k3]) rfl ⟨rfl,bl_set4 HB.out (Nat.le_refl _)⟩
    · rw [hl,if_pos rfl] at hr
      have HL:=Lib.hid hl
      clear hl
      have HC:Hid (∀W,Below w.heap.size w W→Calls Tryz.prog 201 #[.string s] W fun e w'=>e= .returned (.tuple #[.agg #[.int .i64 k,.int .i64 n,.string t,.int .i64 0],.int .i64 (z:Int),.int .i64 E])∧Below W.heap.size W w'):=Lib.hid (fun W hW=>(word_any s W (HE.out.below hW) hs).mono fun _ _ h=>h.of hr)
      clear hr
      go_enter Tryz.func163,Tryz.ntmps163
      go_wp2_with (first|(go_at_call 198;((with_reducible refine (isdigit_as _ _ _ HD).mono ?_);rintro e w' ⟨rfl,rfl⟩))|(go_at_call 200;((with_reducible refine (isletter_as _ _ _ HL).mono ?_);rintro e w' ⟨rfl,rfl⟩))|(go_at_call 201;((with_reducible refine (HC.out _ (bl_alloc (Below.refl _ _))).mono ?_);rintro e w1 ⟨rfl,hb⟩;obtain ⟨hz,hf,c0,c1,c2,c3⟩:=(Tz.new w).later hb;have HB:=Lib.hid (bl_step (bl_alloc (Below.refl w.heap.size w)) hb);clear hb)))
      obtain ⟨k0,k1,k2,k3⟩:=set4 (.int .i64 k) (.int .i64 n) (.string t) (.int .i64 0) c0 c1 c2 c3
      exact bodyPost_ret (v:= .tuple #[.agg #[.int .i64 k,.int .i64 n,.string t,.int .i64 0],.int .i64 (z:Int),.int .i64 E]) (by simp [results,Tryz.results163,go_sem,k0,k1,k2,k3]) rfl ⟨rfl,bl_set4 HB.out (Nat.le_refl _)⟩
  · rw [hd,if_pos rfl] at hr
    have HC:Hid (∀W,Below w.heap.size w W→Calls Tryz.prog 199 #[.string s] W fun e w'=>e= .returned (.tuple #[.agg #[.int .i64 k,.int .i64 n,.string t,.int .i64 0],.int .i64 (z:Int),.int .i64 E])∧Below W.heap.size W w'):=Lib.hid (fun W hW=>(number_any s W hs h0 hd).mono fun _ _ h=>h.of hr)
    have HD:=Lib.hid hd
    clear hr hd
    go_enter Tryz.func163,Tryz.ntmps163
    go_wp2_with (first|(go_at_call 198;((with_reducible refine (isdigit_as _ _ _ HD).mono ?_);rintro e w' ⟨rfl,rfl⟩))|(go_at_call 199;((with_reducible refine (HC.out _ (bl_alloc (Below.refl _ _))).mono ?_);rintro e w1 ⟨rfl,hb⟩;obtain ⟨hz,hf,c0,c1,c2,c3⟩:=(Tz.new w).later hb;have HB:=Lib.hid (bl_step (bl_alloc (Below.refl w.heap.size w)) hb);clear hb)))
    obtain ⟨k0,k1,k2,k3⟩:=set4 (.int .i64 k) (.int .i64 n) (.string t) (.int .i64 0) c0 c1 c2 c3
    exact bodyPost_ret (v:= .tuple #[.agg #[.int .i64 k,.int .i64 n,.string t,.int .i64 0],.int .i64 (z:Int),.int .i64 E]) (by simp [results,Tryz.results163,go_sem,k0,k1,k2,k3]) rfl ⟨rfl,bl_set4 HB.out (Nat.le_refl _)⟩
end Go.Proofs.YtkfihhagcimcmaaGreatDoor.Lx
namespace Go.Proofs.YtkfihhagcimcmaaGreatDoor.Lx
open Go.RowKit
def NxP (r:Int×Tok×Nat) (w:World) (e:Ending) (w':World):Prop:=e= .returned (.tuple #[r.2.1.v,.int .i64 (r.2.2:Int),.int .i64 r.1])∧Below w.heap.size w w'
theorem skAt_of {s:ByteArray} {p:Nat}:SkAt s false p (p+skN false (s.toList.drop p)):=rfl
theorem skAt_le {s:ByteArray} {p q:Nat} (hp:p≤s.size) (h:SkAt s false p q):p≤q∧q≤s.size:=by
  unfold SkAt at h
  have:=skN_le false (s.toList.drop p)
  rw [drop_len] at this
  omega
theorem nextL_end {s:ByteArray} {p q:Nat} (h:SkAt s false p q) (hq:q=s.size):nextL s.toList p=(0,⟨⟨0,0,[]⟩,q⟩,q):=by
  unfold SkAt at h
  unfold nextL
  dsimp only
  rw [h,if_pos (by rw [←Nm.size_list];exact hq)]
theorem nextL_mid {s:ByteArray} {p q:Nat} (h:SkAt s false p q) (hq:q≠s.size):nextL s.toList p=if (firstL (s.toList.drop q)).1=0 then (0,⟨(firstL (s.toList.drop q)).2.1,q⟩,q+(firstL (s.toList.drop q)).2.2) else ((firstL (s.toList.drop q)).1,tok0,q):=by
  unfold SkAt at h
  unfold nextL
  dsimp only
  rw [h,if_neg (by rw [←Nm.size_list];exact hq)]
theorem skip_as (s:ByteArray) (p q:Nat) (w:World) (hs:s.size≤140737488355328) (hp:p≤s.size) (hn:Hid (SkAt s false p q)):Calls Tryz.prog 162 #[.string s,.int .i64 (p:Int)] w fun e w'=>e= .returned (.int .i64 (q:Int))∧w=w':=skip_any s p q w hs hp hn.out
theorem set5 {W:World} {g:Nat} {u0 u1 u2 u3:Value} (v3:Value) (c0:W.cell? ⟨g,0,none⟩=some u0) (c1:W.cell? ⟨g,1,none⟩=some u1) (c2:W.cell? ⟨g,2,none⟩=some u2) (c3:W.cell? ⟨g,3,none⟩=some u3):
    (W.setCell ⟨g,3,none⟩ v3).cell? ⟨g,0,none⟩=some u0∧(W.setCell ⟨g,3,none⟩ v3).cell? ⟨g,1,none⟩=some u1∧(W.setCell ⟨g,3,none⟩ v3).cell? ⟨g,2,none⟩=some u2∧(W.setCell ⟨g,3,none⟩ v3).cell? ⟨g,3,none⟩=some v3:=
  ⟨by rw [set_far (.inr (by decide)),c0],by rw [set_far (.inr (by decide)),c1],by rw [set_far (.inr (by decide)),c2],set_here c3⟩
set_option maxRecDepth 100000 in
set_option maxHeartbeats 2000000 in
theorem next_any (s:ByteArray) (p:Nat) (w:World) (hE:Ent w) (hs:s.size≤140737488355328) (hp:p≤s.size):Calls Tryz.prog 140 #[.string s,.int .i64 (p:Int)] w (NxP (nextL s.toList p) w):=by
  obtain ⟨q,hq⟩:∃q,SkAt s false p q:=⟨_,skAt_of⟩
  obtain ⟨hpq,hqs⟩:=skAt_le hp hq
  have HQ:=Lib.hid hq
  have HE:=Lib.hid hE
  clear hE
  by_cases he:q=s.size
  · have HV:=Lib.hid (nextL_end hq he)
    have e1:(q==s.size)=true:=by simpa using he
    have e2:((q:Int)==(s.size:Int))=true:=by simp;omega
    clear he hq
    go_enter Tryz.func140,Tryz.ntmps140
    go_wp2_with (go_at_call 162;((with_reducible refine (skip_as s p q _ hs hp HQ).mono ?_);rintro e w' ⟨rfl,rfl⟩))
    exact bodyPost_ret (v:= .tuple #[.agg #[.int .i64 0,.int .i64 0,.string ⟨#[]⟩,.int .i64 (q:Int)],.int .i64 (q:Int),.int .i64 0]) (by simp [results,Tryz.results140,go_sem]) rfl ⟨by rw [HV.out];rfl,bl_alloc (Below.refl _ _)⟩
  · have hlt:q<s.size:=by omega
    have HV:=Lib.hid (nextL_mid hq he)
    obtain ⟨⟨E,⟨k,n,t⟩,z⟩,hr⟩:∃r,firstL (s.toList.drop q)=r:=⟨_,rfl⟩
    rw [hr] at HV
    dsimp only at HV
    have HF:Hid (∀W,Below w.heap.size w W→Calls Tryz.prog 163 #[.string (s.extract q s.size)] W fun e w'=>e= .returned (.tuple #[.agg #[.int .i64 k,.int .i64 n,.string (bs t),.int .i64 0],.int .i64 (z:Int),.int .i64 E])∧Below W.heap.size W w'):=Lib.hid (fun W hW=>first_any _ k n E (bs t) z W (HE.out.below hW) (by simp;omega) (by simp;omega) (by rw [ext_drop,bs_list];exact hr))
    have HZ:Hid (q+z≤281474976710656):=Lib.hid (by
      have hne:s.toList.drop q≠[]:=by rw [drop_at s q hlt];simp
      have h:=(firstL_le hne).1
      rw [hr,drop_len] at h
      have h:z≤s.size-q:=h
      omega)
    have e1:(q==s.size)=false:=by simpa using he
    have e2:((q:Int)==(s.size:Int))=false:=by simp;omega
    clear he hq hr
    by_cases h0:E=0
    · subst h0
      replace HV:=Lib.hid (HV.out.trans (if_pos rfl))
      have hz:=HZ.out
      go_enter Tryz.func140,Tryz.ntmps140
      go_wp2_with (first|(go_at_call 162;((with_reducible refine (skip_as s p q _ hs hp HQ).mono ?_);rintro e w' ⟨rfl,rfl⟩))|(go_at_call 163;((with_reducible refine (HF.out _ (bl_alloc (Below.refl _ _))).mono ?_);rintro e w1 ⟨rfl,hb⟩;obtain ⟨hz,hf,c0,c1,c2,c3⟩:=(Tz.new w).later hb;obtain ⟨k0,k1,k2,k3⟩:=set4 (.int .i64 k) (.int .i64 n) (.string (bs t)) (.int .i64 0) c0 c1 c2 c3;obtain ⟨j0,j1,j2,j3⟩:=set5 (.int .i64 (q:Int)) k0 k1 k2 k3;have HB:=Lib.hid (bl_step (bl_alloc (Below.refl w.heap.size w)) hb);clear hb)))
      obtain ⟨i0,i1,i2,i3⟩:=set4 (.int .i64 k) (.int .i64 n) (.string (bs t)) (.int .i64 (q:Int)) j0 j1 j2 j3
      exact bodyPost_ret (v:= .tuple #[.agg #[.int .i64 k,.int .i64 n,.string (bs t),.int .i64 (q:Int)],.int .i64 ((q:Int)+(z:Int)),.int .i64 0]) (by simp [results,Tryz.results140,go_sem,i0,i1,i2,i3]) rfl ⟨by rw [HV.out];rfl,bl_set4 (bl_set (bl_set4 HB.out (Nat.le_refl _)) (Nat.le_refl _)) (Nat.le_refl _)⟩
    · replace HV:=Lib.hid (HV.out.trans (if_neg h0))
      have h1:(E !=0)=true:=by simpa using h0
      clear h0
      go_enter Tryz.func140,Tryz.ntmps140
      go_wp2_with (first|(go_at_call 162;((with_reducible refine (skip_as s p q _ hs hp HQ).mono ?_);rintro e w' ⟨rfl,rfl⟩))|(go_at_call 163;((with_reducible refine (HF.out _ (bl_alloc (Below.refl _ _))).mono ?_);rintro e w1 ⟨rfl,hb⟩;obtain ⟨hz,hf,c0,c1,c2,c3⟩:=(Tz.new w).later hb;obtain ⟨k0,k1,k2,k3⟩:=set4 (.int .i64 k) (.int .i64 n) (.string (bs t)) (.int .i64 0) c0 c1 c2 c3;have HB:=Lib.hid (bl_step (bl_alloc (Below.refl w.heap.size w)) hb);clear hb)))
      obtain ⟨i0,i1,i2,i3⟩:=set4 (.int .i64 0) (.int .i64 0) (.string ⟨#[]⟩) (.int .i64 0) k0 k1 k2 k3
      exact bodyPost_ret (v:= .tuple #[.agg #[.int .i64 0,.int .i64 0,.string ⟨#[]⟩,.int .i64 0],.int .i64 (q:Int),.int .i64 E]) (by simp [results,Tryz.results140,go_sem,i0,i1,i2,i3]) rfl ⟨by rw [HV.out];rfl,bl_set4 (bl_set4 HB.out (Nat.le_refl _)) (Nat.le_refl _)⟩
end Go.Proofs.YtkfihhagcimcmaaGreatDoor.Lx
namespace Go.Proofs.YtkfihhagcimcmaaGreatDoor.Lx
open Go.RowKit
theorem Tz.fresh (w:World) (ty:TypeId):Tz (w.alloc (.cells #[.int .i64 0,.int .i64 0,.string {data:=#[]},.int .i64 0] ty)) w.heap.size:=⟨by simp,fun _=>World.frozen?_alloc_new ..,by simp,by simp,by simp,by simp⟩
def RfP (r:Int×Tk×Nat) (q:Nat) (w:World) (e:Ending) (w':World):Prop:=NxP (if r.1=0 then (0,⟨r.2.1,q⟩,q+r.2.2) else (r.1,tok0,q)) w e w'
theorem RfP.yes {k n:Int} {t:List UInt8} {z q:Nat} {P:Int} {S:ByteArray} {w w':World} (hS:S=bs t) (hP:P=(q:Int)+(z:Int)) (hb:Below w.heap.size w w'):RfP (0,⟨k,n,t⟩,z) q w (.returned (.tuple #[.agg #[.int .i64 k,.int .i64 n,.string S,.int .i64 (q:Int)],.int .i64 P,.int .i64 0])) w':=by
  subst hS hP;exact ⟨rfl,hb⟩
theorem RfP.no {E:Int} {x:Tk×Nat} {q:Nat} {w w':World} (hE:E≠0) (hb:Below w.heap.size w w'):RfP (E,x) q w (.returned (.tuple #[.agg #[.int .i64 0,.int .i64 0,.string ⟨#[]⟩,.int .i64 0],.int .i64 (q:Int),.int .i64 E])) w':=by
  unfold RfP;rw [if_neg hE];exact ⟨rfl,hb⟩
def TxQ (s:ByteArray) (q:Nat) (R:Option (List UInt8×Nat)) (k:Nat) (acc:List UInt8):Prop:=∃f,s.size-k<f∧txF f (s.toList.drop k) acc (k-q)=R
section
variable {s:ByteArray} {q:Nat} {R:Option (List UInt8×Nat)} {k:Nat} {acc:List UInt8} (h:TxQ s q R k acc)
include h
theorem TxQ.quote (hk:k<s.size) (hq:(s[k].toNat:Int)=34):R=some (acc,k-q):=by
  obtain ⟨f,hf,h⟩:=h
  rw [drop_at s k hk,txF_quote (by omega) hq] at h;exact h.symm
theorem TxQ.end_ (hk:¬k<s.size):R=none:=by
  obtain ⟨f,hf,h⟩:=h
  rw [drop_end s k hk,txF_nil] at h;exact h.symm
theorem TxQ.bad (hk:k<s.size) (hq:¬(s[k].toNat:Int)=34) (hp:(partL (s.toList.drop k)).2=0):R=none:=by
  obtain ⟨f,hf,h⟩:=h
  rw [drop_at s k hk] at h hp
  rw [txF_bad hq hp] at h;exact h.symm
theorem TxQ.step {n:Nat} {c:Int} (hqk:q≤k) (hk:k<s.size) (hq:¬(s[k].toNat:Int)=34) (hp:partL (s.toList.drop k)=(c,n)) (hn:n≠0):TxQ s q R (k+n) (acc++[UInt8.ofNat c.toNat]):=by
  obtain ⟨f,hf,h⟩:=h
  cases f
  · omega
  · rename_i f
    rw [drop_at s k hk] at h hp
    rw [txF_step hq (by rw [hp];exact hn),hp] at h
    refine ⟨f,by omega,?_⟩
    rw [←h,←drop_at s k hk,List.drop_drop,show k+n-q=k-q+n by omega]
end
theorem rpart_bl (s:ByteArray) (k:Nat) (c:Int) (n:Nat) (w:World) (hs:s.size≤140737488355328) (hk:k<s.size) (hr:Hid (partL (s.toList.drop k)=(c,n))):Calls Tryz.prog 153 #[.string s,.int .i64 (k:Int)] w fun e w'=>e= .returned (.tuple #[.int .u8 c,.int .i64 (n:Int)])∧Below w.heap.size w w':=by
  have h:=rpart_any s k w hs hk
  rw [hr.out] at h
  exact h.mono fun e w' ⟨he,q,hw⟩=>⟨he,by subst hw;exact bl_drewN _ _⟩
theorem bs_app (x y:List UInt8):bs x++⟨y.toArray⟩=bs (x++y):=ByteArray.mk_append_mk x y
theorem conv_one (W:World) (c:Int) (h0:0≤c) (h1:c≤255):(convert 73 9 (.slice (some ⟨W.heap.size,0,none⟩) 1 1)).run Tryz.prog (W.alloc (.cells #[.int .u8 c] 5))= .ok (.string ⟨#[UInt8.ofNat c.toNat]⟩) (W.alloc (.cells #[.int .u8 c] 5)):=
  conv_row (L:=[UInt8.ofNat c.toNat]) 1 (.inr ⟨_,rfl,fun _=>by simp,fun j hj=>by
    obtain rfl:j=0:=by simp at hj;omega
    simp [Addr.add]
    omega⟩)
theorem qtext_none {s:ByteArray} {q:Nat} {R:Option (List UInt8×Nat)} (h:txF ((s.toList.drop q).length+1) ((s.toList.drop q).drop 1) [] 1=R) (hR:R=none):textL (s.toList.drop q)=(20,⟨0,0,[]⟩,0):=by
  unfold textL;rw [h,hR]
theorem qtext_long {s:ByteArray} {q:Nat} {R:Option (List UInt8×Nat)} {acc:List UInt8} {k:Nat} (h:txF ((s.toList.drop q).length+1) ((s.toList.drop q).drop 1) [] 1=R) (hR:R=some (acc,k)) (hl:256<acc.length):textL (s.toList.drop q)=(4,⟨0,0,[]⟩,0):=by
  unfold textL;rw [h,hR];exact if_pos hl
theorem qtext_yes {s:ByteArray} {q:Nat} {R:Option (List UInt8×Nat)} {acc:List UInt8} {k:Nat} (h:txF ((s.toList.drop q).length+1) ((s.toList.drop q).drop 1) [] 1=R) (hR:R=some (acc,k)) (hl:¬256<acc.length):textL (s.toList.drop q)=(0,⟨3,0,acc⟩,k+1):=by
  unfold textL;rw [h,hR];exact if_neg hl
set_option maxRecDepth 100000 in
set_option maxHeartbeats 4000000 in
theorem rtext_any (s:ByteArray) (q:Nat) (w:World) (hs:s.size≤140737488355328) (hq:q<s.size):Calls Tryz.prog 121 #[.string s,.int .i64 (q:Int)] w (RfP (textL (s.toList.drop q)) q w):=by
  obtain ⟨R,hR⟩:∃R,txF ((s.toList.drop q).length+1) ((s.toList.drop q).drop 1) [] 1=R:=⟨_,rfl⟩
  have HT:Hid (TxQ s q R (q+1) []):=Lib.hid ⟨(s.toList.drop q).length+1,by rw [drop_len];omega,by rw [←hR,List.drop_drop,show q+1-q=1 by omega]⟩
  have HR:=Lib.hid hR
  clear hR
  go_enter Tryz.func121,Tryz.ntmps121
  go_wp2_with fail
  go_loopw [7,8] (fun v i wr=>∃(k:Nat) (acc:List UInt8),k≤s.size∧q+1≤k∧i= .int .i64 k∧acc.length≤k∧v= .string (bs acc)∧Hid (TxQ s q R k acc)∧Hid (Tz wr w.heap.size)∧Hid (Below (w.heap.size) w wr)) (fun _ i _=>s.size-(intOf i).toNat)
  case atStart=>exact ⟨q+1,[],by omega,by omega,by go_num,by simp,rfl,HT,Lib.hid (Tz.fresh w 97),Lib.hid (bl_alloc (Below.refl _ _))⟩
  case round=>
    obtain ⟨k,acc,hk,hqk,rfl,hak,rfl,hX,hZ,hB⟩:=hrel
    rename World=>wr
    have hbs:(bs acc).size=acc.length:=bs_size acc
    by_cases hlt:k<s.size
    · obtain ⟨d,hd⟩:∃d:Int,(s[k].toNat:Int)=d:=⟨_,rfl⟩
      have HD:=Lib.hid hd
      cases hne:(d !=34)
      · obtain rfl:d=34:=by simpa using hne
        clear hne
        have HRR:=Lib.hid (hX.out.quote hlt hd)
        obtain ⟨hz,hf,c0,c1,c2,c3⟩:=hZ.out
        by_cases hl:256<acc.length
        · have HV:=Lib.hid (qtext_long HR.out HRR.out hl)
          have hl':256<(bs acc).size:=by omega
          clear hbs
          go_wp2_with fail
          obtain ⟨k0,k1,k2,k3⟩:=set4 (.int .i64 0) (.int .i64 0) (.string ⟨#[]⟩) (.int .i64 0) c0 c1 c2 c3
          refine bodyPost_ret (v:= .tuple #[.agg #[.int .i64 0,.int .i64 0,.string ⟨#[]⟩,.int .i64 0],.int .i64 (q:Int),.int .i64 4]) (by simp [results,Tryz.results121,go_sem,k0,k1,k2,k3]) rfl ?_
          rw [HV.out];exact RfP.no (by decide) (bl_set4 hB.out (Nat.le_refl _))
        · have HV:=Lib.hid (qtext_yes HR.out HRR.out hl)
          have hl':¬256<(bs acc).size:=by omega
          clear hbs
          go_wp2_with fail
          obtain ⟨k0,k1,k2,k3⟩:=set4 (.int .i64 3) (.int .i64 0) (.string (bs acc)) (.int .i64 (q:Int)) c0 c1 c2 c3
          refine bodyPost_ret (v:= .tuple #[.agg #[.int .i64 3,.int .i64 0,.string (bs acc),.int .i64 (q:Int)],.int .i64 ((k:Int)+1),.int .i64 0]) (by simp [results,Tryz.results121,go_sem,k0,k1,k2,k3]) rfl ?_
          rw [HV.out];exact RfP.yes rfl (by omega) (bl_set4 hB.out (Nat.le_refl _))
      · have hq34:¬d=34:=by simpa using hne
        obtain ⟨⟨c,n⟩,hp⟩:∃r,partL (s.toList.drop k)=r:=⟨_,rfl⟩
        have HP:=Lib.hid hp
        obtain ⟨hn1,hc0,hc1⟩:=part_bd hp
        rw [drop_len] at hn1
        by_cases hn:n=0
        · subst hn
          have HRR:=Lib.hid (hX.out.bad hlt (by rw [hd];exact hq34) (by rw [hp]))
          have HV:=Lib.hid (qtext_none HR.out HRR.out)
          clear hp hq34 hbs
          go_wp2_with (go_at_call 153;((with_reducible refine (rpart_bl s k c 0 _ hs hlt HP).mono ?_);rintro e w1 ⟨rfl,hb⟩;obtain ⟨hz,hf,c0,c1,c2,c3⟩:=hZ.out.later hb;have HB:=Lib.hid (bl_step hB.out hb);clear hb))
          obtain ⟨k0,k1,k2,k3⟩:=set4 (.int .i64 0) (.int .i64 0) (.string ⟨#[]⟩) (.int .i64 0) c0 c1 c2 c3
          refine bodyPost_ret (v:= .tuple #[.agg #[.int .i64 0,.int .i64 0,.string ⟨#[]⟩,.int .i64 0],.int .i64 (q:Int),.int .i64 20]) (by simp [results,Tryz.results121,go_sem,k0,k1,k2,k3]) rfl ?_
          rw [HV.out];exact RfP.no (by decide) (bl_set4 HB.out (Nat.le_refl _))
        · have HXS:=Lib.hid (hX.out.step (by omega) hlt (by rw [hd];exact hq34) hp hn)
          have hkn:k+n≤s.size:=by omega
          have hcv:=fun W=>conv_one W c hc0 hc1
          have hb1:(bs acc).size+1≤140737488355329:=by omega
          have HBS:Hid (bs acc++⟨#[UInt8.ofNat c.toNat]⟩=bs (acc++[UInt8.ofNat c.toNat])):=Lib.hid (bs_app acc [UInt8.ofNat c.toNat])
          have HLL:Hid ((acc++[UInt8.ofNat c.toNat]).length=acc.length+1):=Lib.hid (by rw [List.length_append];rfl)
          clear hp hq34 hbs
          go_wp2_with (go_at_call 153;((with_reducible refine (rpart_bl s k c n _ hs hlt HP).mono ?_);rintro e w1 ⟨rfl,hb⟩;have HZ:=Lib.hid (hZ.out.later hb);have HB:=Lib.hid (bl_step hB.out hb);clear hb))
          go_roundw
          case rel=>exact ⟨k+n,acc++[UInt8.ofNat c.toNat],hkn,by omega,by go_num,by rw [HLL.out];omega,by rw [←HBS.out],HXS,Lib.hid (HZ.out.later (bl_alloc (Below.refl _ _))),Lib.hid (bl_alloc HB.out)⟩
          case measure=>simp [intOf];omega
    · have HRR:=Lib.hid (hX.out.end_ hlt)
      have HV:=Lib.hid (qtext_none HR.out HRR.out)
      obtain ⟨hz,hf,c0,c1,c2,c3⟩:=hZ.out
      clear hbs
      go_wp2_with fail
      obtain ⟨k0,k1,k2,k3⟩:=set4 (.int .i64 0) (.int .i64 0) (.string ⟨#[]⟩) (.int .i64 0) c0 c1 c2 c3
      refine bodyPost_ret (v:= .tuple #[.agg #[.int .i64 0,.int .i64 0,.string ⟨#[]⟩,.int .i64 0],.int .i64 (q:Int),.int .i64 20]) (by simp [results,Tryz.results121,go_sem,k0,k1,k2,k3]) rfl ?_
      rw [HV.out];exact RfP.no (by decide) (bl_set4 hB.out (Nat.le_refl _))
end Go.Proofs.YtkfihhagcimcmaaGreatDoor.Lx
namespace Go.Proofs.YtkfihhagcimcmaaGreatDoor.Lx
open Go.RowKit
theorem pre_iff {x L:List UInt8}:x.isPrefixOf L=decide (x.length≤L.length∧L.take x.length=x):=by
  rw [Bool.eq_iff_iff,List.isPrefixOf_iff_prefix,List.prefix_iff_eq_take,decide_eq_true_iff]
  constructor
  · intro h
    refine ⟨?_,h.symm⟩
    rw [h,List.length_take];omega
  · intro h;exact h.2.symm
theorem ext_cut (s:ByteArray) (q n:Nat):(s.extract q (q+n)).toList=(s.toList.drop q).take n:=by
  rw [ext_take,show q+n-q=n by omega]
set_option maxHeartbeats 1000000 in
theorem begins_as (s x:ByteArray) (q:Nat) (b:Bool) (w:World) (hs:s.size≤140737488355328) (hx:x.size≤100) (hq:q≤s.size) (hb:Hid (x.toList.isPrefixOf (s.toList.drop q)=b)):Calls Tryz.prog 154 #[.string s,.int .i64 (q:Int),.string x] w fun e w'=>e= .returned (.bool b)∧w=w':=by
  by_cases hl:(x.size:Int)≤(s.size:Int)-(q:Int)
  · have hle:q+x.size≤s.size:=by omega
    have hcut:((s.extract q (q+x.size)).toList==x.toList)=b:=by
      rw [←hb.out,pre_iff,ext_cut,Nm.size_list x,Bool.eq_iff_iff]
      have h1:x.toList.length≤(s.toList.drop q).length:=by rw [drop_len,←Nm.size_list];omega
      rw [beq_iff_eq,decide_eq_true_iff]
      exact ⟨fun h=>⟨h1,h⟩,fun h=>h.2⟩
    go_enter Tryz.func154,Tryz.ntmps154
    go_wp2_with fail
    go_ret
    exact ⟨rfl,rfl⟩
  · have hcut:b=false:=by
      rw [←hb.out,pre_iff]
      refine decide_eq_false (fun h=>?_)
      have:=h.1
      rw [drop_len,←Nm.size_list] at this;omega
    subst hcut
    go_enter Tryz.func154,Tryz.ntmps154
    go_wp2_with fail
    go_ret
    exact ⟨rfl,rfl⟩
theorem cons_pre (x c:UInt8) (l:List UInt8):[x].isPrefixOf (c::l)=(x==c):=by simp [List.isPrefixOf]
theorem pre_cut {s:ByteArray} {q:Nat} {x:List UInt8} (h:x.isPrefixOf (s.toList.drop q)=true) (hx:x.length=2:=by rfl):s.extract q (q+2)=bs x:=by
  rw [pre_iff] at h
  have:=(of_decide_eq_true h).2
  rw [hx] at this
  exact bs_ext (by rw [ext_cut,this,bs_list])
theorem pre_room {s:ByteArray} {q:Nat} {x:List UInt8} (h:x.isPrefixOf (s.toList.drop q)=true) (hx:x.length=2:=by rfl):q+2≤s.size:=by
  rw [pre_iff] at h
  have:=(of_decide_eq_true h).1
  rw [hx,drop_len] at this
  omega
def oneS:ByteArray:=⟨#[58,59,123,125,40,41,38,124,43,45,42,46]⟩
theorem one_tab:∀k,(h:k<12)→signsL.getD (k+3) []=[oneS[k]'h]:=by decide
theorem one_cut:∀k,k<12→oneS.extract k (k+1)=⟨(signsL.getD (k+3) []).toArray⟩:=by
  intro k hk
  apply bs_ext
  rw [ext_take]
  have e:∀k,k<12→(oneS.toList.drop k).take (k+1-k)=signsL.getD (k+3) []:=by decide+kernel
  rw [e k hk]
  exact (bs_list _).symm
theorem drew2 (w:World) (a b:Nat):∃m,(w.drewN a).drewN b=w.drewN m:=⟨a+b,by simp only [World.drewN,Nat.add_assoc]⟩
theorem pre_one {s:ByteArray} {q k:Nat} (hq:q<s.size) (hk:k<12):(signsL.getD (k+3) []).isPrefixOf (s.toList.drop q)=((s[q].toNat:Int)==((oneS[k]'hk).toNat:Int)):=by
  rw [one_tab k hk,drop_at s q hq,cons_pre,Bool.eq_iff_iff]
  simp
  constructor
  · intro h;rw [h]
  · intro h;exact UInt8.toNat.inj (by omega)
set_option maxRecDepth 100000 in
set_option maxHeartbeats 4000000 in
theorem rsign_any (s:ByteArray) (q:Nat) (w:World) (hs:s.size≤140737488355328) (hq:q<s.size):Calls Tryz.prog 124 #[.string s,.int .i64 (q:Int)] w fun e w'=>e= .returned (.string (bs (signL (s.toList.drop q))))∧∃n,w'=w.drewN n:=by
  have hq2:q≤s.size:=by omega
  have g0:∀b,(signsL.getD 0 []).isPrefixOf (s.toList.drop q)=b→Hid ((ByteArray.toList ⟨#[46,46,46]⟩).isPrefixOf (s.toList.drop q)=b):=fun b h=>Lib.hid (by rw [←h,Lib.toList_data];rfl)
  have g1:∀b,(signsL.getD 1 []).isPrefixOf (s.toList.drop q)=b→Hid ((ByteArray.toList ⟨#[62,61]⟩).isPrefixOf (s.toList.drop q)=b):=fun b h=>Lib.hid (by rw [←h,Lib.toList_data];rfl)
  have g2:∀b,(signsL.getD 2 []).isPrefixOf (s.toList.drop q)=b→Hid ((ByteArray.toList ⟨#[60,61]⟩).isPrefixOf (s.toList.drop q)=b):=fun b h=>Lib.hid (by rw [←h,Lib.toList_data];rfl)
  cases h0:(signsL.getD 0 []).isPrefixOf (s.toList.drop q)
  · have G0:=g0 _ h0
    cases h1:(signsL.getD 1 []).isPrefixOf (s.toList.drop q)
    · have G1:=g1 _ h1
      cases h2:(signsL.getD 2 []).isPrefixOf (s.toList.drop q)
      · have G2:=g2 _ h2
        have HN:=Lib.hid (show ∀j,j<3→(signsL.getD j []).isPrefixOf (s.toList.drop q)=false from fun j hj=>by
          obtain rfl|rfl|rfl:j=0∨j=1∨j=2:=by omega
          · exact h0
          · exact h1
          · exact h2)
        clear h0 h1 h2 g0 g1 g2
        go_enter Tryz.func124,Tryz.ntmps124
        go_wp2_with (first|(go_at_call 154;((with_reducible refine (begins_as s ⟨#[46,46,46]⟩ q false _ hs (by decide) hq2 G0).mono ?_);rintro e w' ⟨rfl,rfl⟩))|(go_at_call 154;((with_reducible refine (begins_as s ⟨#[62,61]⟩ q false _ hs (by decide) hq2 G1).mono ?_);rintro e w' ⟨rfl,rfl⟩))|(go_at_call 154;((with_reducible refine (begins_as s ⟨#[60,61]⟩ q false _ hs (by decide) hq2 G2).mono ?_);rintro e w' ⟨rfl,rfl⟩)))
        go_loopw [6] (fun i wr=>∃k:Nat,k≤12∧i= .int .i64 k∧Hid (∀j,j<k+3→(signsL.getD j []).isPrefixOf (s.toList.drop q)=false)∧Hid (∃n,wr=w.drewN n)) (fun i _=>12-(intOf i).toNat)
        case atStart=>exact ⟨0,by omega,rfl,HN,Lib.hid ⟨0,rfl⟩⟩
        case round=>
          obtain ⟨k,hk,rfl,hN,hW⟩:=hrel
          rename World=>wr
          by_cases hlt:k<12
          · have hi1:(k:Int)<12:=by omega
            have hi2:(q:Int)<(s.size:Int):=by omega
            have hi0:(0:Int)≤(k:Int):=by omega
            have hj0:(0:Int)≤(q:Int):=by omega
            go_wp2_with fail
            go_quiet (fail)
            go_wp2_with fail
            · have he:((s[q].toNat:Int)==(oneS[k].toNat:Int))=true:=by assumption
              have HV:=sign_at (L:=s.toList.drop q) (k:=k+3) (by omega) hN.out (by rw [pre_one hq hlt,he])
              go_ret
              exact ⟨by rw [HV];exact ret_str (one_cut k hlt),by obtain ⟨n,rfl⟩:=hW.out;exact drew2 w n nq⟩
            · have he:((s[q].toNat:Int)==(oneS[k].toNat:Int))=false:=by assumption
              have hn2:=Lib.hid (show ∀j,j<(k+1)+3→(signsL.getD j []).isPrefixOf (s.toList.drop q)=false from fun j hj=>by
                by_cases e:j=k+3
                · subst e;rw [pre_one hq hlt,he]
                · exact hN.out j (by omega))
              go_roundw
              case rel=>exact ⟨k+1,by omega,by go_num,hn2,Lib.hid (by obtain ⟨n,rfl⟩:=hW.out;exact drew2 w n nq)⟩
              case measure=>simp [intOf];omega
          · obtain rfl:k=12:=by omega
            have HV:=Lib.hid (sign_none hN.out)
            go_wp2_with fail
            go_ret
            exact ⟨by rw [HV.out];rfl,hW.out⟩
      · have G2:=g2 _ h2
        have HV:=Lib.hid (sign_at (L:=s.toList.drop q) (k:=2) (by decide) (fun j hj=>by
          obtain rfl|rfl:j=0∨j=1:=by omega
          · exact h0
          · exact h1) h2)
        have HX:=Lib.hid (pre_cut h2)
        have hz:q+2≤s.size:=pre_room h2
        clear h0 h1 h2 g0 g1 g2
        go_enter Tryz.func124,Tryz.ntmps124
        go_wp2_with (first|(go_at_call 154;((with_reducible refine (begins_as s ⟨#[46,46,46]⟩ q false _ hs (by decide) hq2 G0).mono ?_);rintro e w' ⟨rfl,rfl⟩))|(go_at_call 154;((with_reducible refine (begins_as s ⟨#[62,61]⟩ q false _ hs (by decide) hq2 G1).mono ?_);rintro e w' ⟨rfl,rfl⟩))|(go_at_call 154;((with_reducible refine (begins_as s ⟨#[60,61]⟩ q true _ hs (by decide) hq2 G2).mono ?_);rintro e w' ⟨rfl,rfl⟩)))
        go_ret
        exact ⟨by rw [HV.out];exact ret_str HX.out,0,rfl⟩
    · have G1:=g1 _ h1
      have HV:=Lib.hid (sign_at (L:=s.toList.drop q) (k:=1) (by decide) (fun j hj=>by
          obtain rfl:j=0:=by omega
          exact h0) h1)
      have HX:=Lib.hid (pre_cut h1)
      have hz:q+2≤s.size:=pre_room h1
      clear h0 h1 g0 g1 g2
      go_enter Tryz.func124,Tryz.ntmps124
      go_wp2_with (first|(go_at_call 154;((with_reducible refine (begins_as s ⟨#[46,46,46]⟩ q false _ hs (by decide) hq2 G0).mono ?_);rintro e w' ⟨rfl,rfl⟩))|(go_at_call 154;((with_reducible refine (begins_as s ⟨#[62,61]⟩ q true _ hs (by decide) hq2 G1).mono ?_);rintro e w' ⟨rfl,rfl⟩)))
      go_ret
      exact ⟨by rw [HV.out];exact ret_str HX.out,0,rfl⟩
  · have G0:=g0 _ h0
    have HV:=Lib.hid (sign_at (L:=s.toList.drop q) (k:=0) (by decide) (fun j hj=>absurd hj (Nat.not_lt_zero _)) h0)
    clear h0 g0 g1 g2
    go_enter Tryz.func124,Tryz.ntmps124
    go_wp2_with (go_at_call 154;((with_reducible refine (begins_as s ⟨#[46,46,46]⟩ q true _ hs (by decide) hq2 G0).mono ?_);rintro e w' ⟨rfl,rfl⟩))
    go_ret
    exact ⟨by rw [HV.out];rfl,0,rfl⟩
end Go.Proofs.YtkfihhagcimcmaaGreatDoor.Lx
namespace Go.Proofs.YtkfihhagcimcmaaGreatDoor.Lx
open Go.RowKit
theorem rskip_as (s:ByteArray) (p q:Nat) (w:World) (hs:s.size≤140737488355328) (hp:p≤s.size) (hn:Hid (SkAt s false p q)):Calls Tryz.prog 120 #[.string s,.int .i64 (p:Int)] w fun e w'=>e= .returned (.int .i64 (q:Int))∧w=w':=rskip_any s p q w hs hp hn.out
theorem readE_cases (D:List UInt8):Nu.readE false D=0∨Nu.readE false D=2∨Nu.readE false D=25:=by
  unfold Nu.readE Nu.outE
  cases Nu.formOk false D
  · exact .inr (.inl rfl)
  · simp only [cond_true]
    split
    · exact .inr (.inr rfl)
    · cases Nu.inB (Nu.sgnV false (Nu.vr D))
      · exact .inr (.inr rfl)
      · exact .inl rfl
def RwAt (s:ByteArray) (p:UInt8→Bool) (q m k:Nat):Prop:=q≤k∧k+rowN p (s.toList.drop k)=q+m
theorem RwAt.first {s:ByteArray} {p:UInt8→Bool} {q:Nat}:RwAt s p q (rowN p (s.toList.drop q)) q:=⟨Nat.le_refl _,rfl⟩
theorem RwAt.step {s:ByteArray} {p:UInt8→Bool} {q m k:Nat} (h:RwAt s p q m k) (hk:k<s.size) (hp:p s[k]=true):RwAt s p q m (k+1):=by
  obtain ⟨h1,h2⟩:=h
  rw [drop_at s k hk,rowN_yes hp] at h2
  exact ⟨by omega,by omega⟩
theorem RwAt.stop {s:ByteArray} {p:UInt8→Bool} {q m k:Nat} (h:RwAt s p q m k) (hk:k<s.size) (hp:p s[k]=false):k=q+m:=by
  have h2:=h.2
  rw [drop_at s k hk,rowN_no hp] at h2
  omega
theorem RwAt.end_ {s:ByteArray} {p:UInt8→Bool} {q m k:Nat} (h:RwAt s p q m k) (hk:¬k<s.size):k=q+m:=by
  have h2:=h.2
  rw [drop_end s k hk] at h2
  simp only [rowN] at h2;omega
theorem rread_front (t:ByteArray) (D:List UInt8) (V E:Int) (w:World) (ht:Hid (t=bs D)) (hn:Hid (Nu.negS t=false)) (hs:t.size≤maxLen) (hV:Hid (Nu.readV false D=V)) (hE:Hid (Nu.readE false D=E)):Calls Tryz.prog 89 #[.string t] w fun e w'=>e= .returned (.tuple #[.int .i64 V,.int .i64 E])∧w=w':=by
  have h:=Nu.rread_any t w hs
  rw [Nu.trim_pos hn.out,hn.out,ht.out,←Lib.toList_data,bs_list,hV.out,hE.out] at h
  rw [ht.out];exact h
theorem rnright_as (t:ByteArray) (b:Bool) (w:World) (hs:t.size≤maxLen) (hb:Hid (Nm.rightL t.toList=b)):Calls Tryz.prog 72 #[.string t] w fun e w'=>e= .returned (.bool b)∧w=w':=by rw [←hb.out];exact Nm.rright_any t w hs
theorem rnword_as (t:ByteArray) (v:Int) (w:World) (hb:Hid (Nm.wordN t.toList=v)):Calls Tryz.prog 119 #[.string t] w fun e w'=>e= .returned (.int .i64 v)∧w=w':=by rw [←hb.out];exact Nm.rword_any t w
theorem rletter_as (c:UInt8) (b:Bool) (w:World) (h:Hid (nmB c=b)):Calls Tryz.prog 123 #[.int .u8 (c.toNat:Int)] w fun e w'=>e= .returned (.bool b)∧w=w':=by rw [←h.out];exact rletter_any c w
theorem firstL_at {s:ByteArray} {q:Nat} (hq:q<s.size):firstL (s.toList.drop q)=if dgB s[q]=true then numberL (s.toList.drop q) else if lwB s[q]=true then wordL (s.toList.drop q) else if (s[q].toNat:Int)=34 then textL (s.toList.drop q) else signR (s.toList.drop q):=by
  rw [drop_at s q hq,firstL_cons]
theorem negS_at {s:ByteArray} {q m:Nat} (hq:q<s.size) (hd:dgB s[q]=true) (hm:0<m):Nu.negS (s.extract q (q+m))=false:=by
  unfold Nu.negS
  rw [←Lib.toList_data,ext_cut,drop_at s q hq]
  cases m
  · omega
  · simp only [List.take_succ_cons,List.head?_cons]
    have:=dgB_head hd
    simp
    intro e;rw [e] at this;exact this rfl
set_option maxRecDepth 100000 in
set_option maxHeartbeats 2000000 in
theorem rnext_end (s:ByteArray) (p q:Nat) (w:World) (hs:s.size≤140737488355328) (hp:p≤s.size) (hq:SkAt s false p q) (he:q=s.size):Calls Tryz.prog 74 #[.string s,.int .i64 (p:Int)] w (NxP (nextL s.toList p) w):=by
  have HQ:=Lib.hid hq
  have HV:=Lib.hid (nextL_end hq he)
  have e1:(q==s.size)=true:=by simpa using he
  have e2:((q:Int)==(s.size:Int))=true:=by simp;omega
  clear he hq
  go_enter Tryz.func74,Tryz.ntmps74
  go_wp2_with (go_at_call 120;((with_reducible refine (rskip_as s p q _ hs hp HQ).mono ?_);rintro e w' ⟨rfl,rfl⟩))
  exact bodyPost_ret (v:= .tuple #[.agg #[.int .i64 0,.int .i64 0,.string ⟨#[]⟩,.int .i64 (q:Int)],.int .i64 (q:Int),.int .i64 0]) (by simp [results,Tryz.results74,go_sem]) rfl ⟨by rw [HV.out];rfl,bl_alloc (Below.refl _ _)⟩
set_option maxRecDepth 100000 in
set_option maxHeartbeats 2000000 in
theorem rnext_text (s:ByteArray) (p q:Nat) (w:World) (hs:s.size≤140737488355328) (hp:p≤s.size) (hq:SkAt s false p q) (hlt:q<s.size) (h34:(s[q].toNat:Int)=34):Calls Tryz.prog 74 #[.string s,.int .i64 (p:Int)] w (NxP (nextL s.toList p) w):=by
  have HQ:=Lib.hid hq
  have hf:firstL (s.toList.drop q)=textL (s.toList.drop q):=by
    rw [firstL_at hlt,if_neg (by unfold dgB;rw [h34];decide),if_neg (by unfold lwB;rw [h34];decide),if_pos h34]
  have hn:=nextL_mid hq (by omega)
  rw [hf] at hn
  have HT:=Lib.hid (fun W=>rtext_any s q W hs hlt)
  have e1:(q==s.size)=false:=by simp;omega
  have e2:((q:Int)==(s.size:Int))=false:=by simp;omega
  unfold RfP at HT
  rw [←hn] at HT
  obtain ⟨⟨E,⟨⟨k,n,t⟩,a⟩,z⟩,hr⟩:∃r,nextL s.toList p=r:=⟨_,rfl⟩
  rw [hr] at HT⊢
  clear hq hf hn hr
  go_enter Tryz.func74,Tryz.ntmps74
  go_wp2_with (first|(go_at_call 120;((with_reducible refine (rskip_as s p q _ hs hp HQ).mono ?_);rintro e w' ⟨rfl,rfl⟩))|(go_at_call 121;((with_reducible refine (HT.out _).mono ?_);rintro e w1 ⟨rfl,hb⟩;obtain ⟨hz,hf,c0,c1,c2,c3⟩:=(Tz.fresh w 97).later hb;have HB:=Lib.hid (bl_step (bl_alloc (Below.refl w.heap.size w)) hb);clear hb;dsimp only [Tok.v])))
  obtain ⟨k0,k1,k2,k3⟩:=set4 (.int .i64 k) (.int .i64 n) (.string (bs t)) (.int .i64 a) c0 c1 c2 c3
  exact bodyPost_ret (v:= .tuple #[.agg #[.int .i64 k,.int .i64 n,.string (bs t),.int .i64 a],.int .i64 (z:Int),.int .i64 E]) (by simp [results,Tryz.results74,go_sem,k0,k1,k2,k3]) rfl ⟨rfl,bl_set4 HB.out (Nat.le_refl _)⟩
end Go.Proofs.YtkfihhagcimcmaaGreatDoor.Lx
namespace Go.Proofs.YtkfihhagcimcmaaGreatDoor.Lx
open Go.RowKit
set_option maxRecDepth 100000 in
set_option maxHeartbeats 4000000 in
theorem rnext_num (s:ByteArray) (p q:Nat) (w:World) (hs:s.size≤140737488355328) (hp:p≤s.size) (hq:SkAt s false p q) (hlt:q<s.size) (hd:dgB s[q]=true):Calls Tryz.prog 74 #[.string s,.int .i64 (p:Int)] w (NxP (nextL s.toList p) w):=by
  have HQ:=Lib.hid hq
  obtain ⟨m,hm⟩:∃m,rowN dgB (s.toList.drop q)=m:=⟨_,rfl⟩
  have hm0:0<m:=by rw [←hm,drop_at s q hlt,rowN_yes hd];omega
  have hm1:q+m≤s.size:=by have:=rowN_le dgB (s.toList.drop q);rw [drop_len] at this;omega
  have HRW:Hid (RwAt s dgB q m q):=Lib.hid (by rw [←hm];exact RwAt.first)
  obtain ⟨V,hV⟩:∃V,Nu.readV false ((s.toList.drop q).take m)=V:=⟨_,rfl⟩
  obtain ⟨E,hE⟩:∃E,Nu.readE false ((s.toList.drop q).take m)=E:=⟨_,rfl⟩
  have hf:firstL (s.toList.drop q)=(if E=2 then 20 else E,⟨1,V,[]⟩,m):=by
    rw [firstL_at hlt,if_pos hd];unfold numberL;rw [hm];dsimp only;rw [hV,hE]
  have hn:=nextL_mid hq (by omega)
  rw [hf] at hn
  dsimp only at hn
  have hEc:=readE_cases ((s.toList.drop q).take m)
  rw [hE] at hEc
  have HV:=Lib.hid hV
  have HE:=Lib.hid hE
  have HD:=Lib.hid hd
  have HT:Hid (s.extract q (q+m)=bs ((s.toList.drop q).take m)):=Lib.hid (bs_ext (by rw [ext_cut,bs_list]))
  have HNE:=Lib.hid (negS_at hlt hd hm0)
  have hz:(s.extract q (q+m)).size≤maxLen:=by unfold maxLen;simp;omega
  have hq34:((s[q].toNat:Int)==34)=false:=by have:=of_decide_eq_true hd;simp;omega
  have e1:(q==s.size)=false:=by simp;omega
  have e2:((q:Int)==(s.size:Int))=false:=by simp;omega
  clear hq hf hV hE hd hm
  rcases hEc with rfl|rfl|rfl
  all_goals
    have HN:=Lib.hid hn
    clear hn
    go_enter Tryz.func74,Tryz.ntmps74
    go_wp2_with (first|(go_at_call 120;((with_reducible refine (rskip_as s p q _ hs hp HQ).mono ?_);rintro e w' ⟨rfl,rfl⟩))|(go_at_call 122;((with_reducible refine (rdigit_as _ _ _ HD).mono ?_);rintro e w' ⟨rfl,rfl⟩)))
    go_loop [7] (fun i=>∃k:Nat,k≤s.size∧i= .int .i64 k∧Hid (RwAt s dgB q m k)) (fun i=>s.size-(intOf i).toNat)
    case atStart=>exact ⟨q,by omega,rfl,HRW⟩
    case round=>
      obtain ⟨k,hk,rfl,hR⟩:=hrel
      by_cases hkl:k<s.size
      · cases hc:dgB s[k]
        · have HC:=Lib.hid hc
          obtain rfl:=hR.out.stop hkl hc
          clear hc
          go_wp2_with (first|(go_at_call 122;((with_reducible refine (rdigit_as _ _ _ HC).mono ?_);rintro e w' ⟨rfl,rfl⟩))|(go_at_call 89;((with_reducible refine (rread_front _ _ V _ _ HT HNE hz HV HE).mono ?_);rintro e w' ⟨rfl,rfl⟩)))
          first
            |exact bodyPost_ret (v:= .tuple #[.agg #[.int .i64 1,.int .i64 V,.string ⟨#[]⟩,.int .i64 (q:Int)],.int .i64 ((q+m:Nat):Int),.int .i64 0]) (by simp [results,Tryz.results74,go_sem]) rfl ⟨by rw [HN.out];rfl,bl_alloc (Below.refl _ _)⟩
            |exact bodyPost_ret (v:= .tuple #[.agg #[.int .i64 0,.int .i64 0,.string ⟨#[]⟩,.int .i64 0],.int .i64 (q:Int),.int .i64 20]) (by simp [results,Tryz.results74,go_sem]) rfl ⟨by rw [HN.out];rfl,bl_alloc (Below.refl _ _)⟩
            |exact bodyPost_ret (v:= .tuple #[.agg #[.int .i64 0,.int .i64 0,.string ⟨#[]⟩,.int .i64 0],.int .i64 (q:Int),.int .i64 25]) (by simp [results,Tryz.results74,go_sem]) rfl ⟨by rw [HN.out];rfl,bl_alloc (Below.refl _ _)⟩
        · have HC:=Lib.hid hc
          have HS:=Lib.hid (hR.out.step hkl hc)
          clear hc
          go_wp2_with (go_at_call 122;((with_reducible refine (rdigit_as _ _ _ HC).mono ?_);rintro e w' ⟨rfl,rfl⟩))
          go_round
          case rel=>exact ⟨k+1,by omega,by go_num,HS⟩
          case measure=>simp [intOf];omega
      · obtain rfl:=hR.out.end_ hkl
        go_wp2_with (go_at_call 89;((with_reducible refine (rread_front _ _ V _ _ HT HNE hz HV HE).mono ?_);rintro e w' ⟨rfl,rfl⟩))
        first
          |exact bodyPost_ret (v:= .tuple #[.agg #[.int .i64 1,.int .i64 V,.string ⟨#[]⟩,.int .i64 (q:Int)],.int .i64 ((q+m:Nat):Int),.int .i64 0]) (by simp [results,Tryz.results74,go_sem]) rfl ⟨by rw [HN.out];rfl,bl_alloc (Below.refl _ _)⟩
          |exact bodyPost_ret (v:= .tuple #[.agg #[.int .i64 0,.int .i64 0,.string ⟨#[]⟩,.int .i64 0],.int .i64 (q:Int),.int .i64 20]) (by simp [results,Tryz.results74,go_sem]) rfl ⟨by rw [HN.out];rfl,bl_alloc (Below.refl _ _)⟩
          |exact bodyPost_ret (v:= .tuple #[.agg #[.int .i64 0,.int .i64 0,.string ⟨#[]⟩,.int .i64 0],.int .i64 (q:Int),.int .i64 25]) (by simp [results,Tryz.results74,go_sem]) rfl ⟨by rw [HN.out];rfl,bl_alloc (Below.refl _ _)⟩
end Go.Proofs.YtkfihhagcimcmaaGreatDoor.Lx
namespace Go.Proofs.YtkfihhagcimcmaaGreatDoor.Lx
open Go.RowKit
theorem sign_heads:∀j,j<15→∃x r,signsL.getD j []=x::r∧lwB x=false:=fun j hj=>by
  have h:∀j,j<15→((signsL.getD j []).head?.map lwB)=some false:=by decide
  have h2:=h j hj
  cases e:signsL.getD j [] with
  |nil=>rw [e] at h2;exact absurd h2 (by decide)
  |cons x r=>
    rw [e] at h2
    exact ⟨x,r,rfl,by simpa using h2⟩
theorem sign_letter {c:UInt8} {l:List UInt8} (h:lwB c=true):signL (c::l)=[]:=sign_none fun j hj=>by
  obtain ⟨x,r,e,hx⟩:=sign_heads j hj
  rw [e]
  have:(x==c)=false:=by
    cases hxc:x==c
    · rfl
    · have:x=c:=by simpa using hxc
      subst this;rw [h] at hx;exact absurd hx (by decide)
  simp [List.isPrefixOf,this]
theorem rsign_as (s:ByteArray) (q:Nat) (X:ByteArray) (w:World) (hs:s.size≤140737488355328) (hq:q<s.size) (hX:Hid (bs (signL (s.toList.drop q))=X)):Calls Tryz.prog 124 #[.string s,.int .i64 (q:Int)] w fun e w'=>e= .returned (.string X)∧Below w.heap.size w w':=by
  refine (rsign_any s q w hs hq).mono ?_
  rintro e w' ⟨rfl,n,rfl⟩
  exact ⟨by rw [hX.out],bl_drewN _ _⟩
set_option maxRecDepth 100000 in
set_option maxHeartbeats 4000000 in
theorem rnext_word (s:ByteArray) (p q:Nat) (w:World) (hs:s.size≤140737488355328) (hp:p≤s.size) (hq:SkAt s false p q) (hlt:q<s.size) (hd:dgB s[q]=false) (hl:lwB s[q]=true):Calls Tryz.prog 74 #[.string s,.int .i64 (p:Int)] w (NxP (nextL s.toList p) w):=by
  have HQ:=Lib.hid hq
  have hlo:=of_decide_eq_true hl
  obtain ⟨hlo1,hlo2⟩:=hlo
  obtain ⟨m,hm⟩:∃m,rowN nmB (s.toList.drop q)=m:=⟨_,rfl⟩
  have hnm:nmB s[q]=true:=decide_eq_true (.inl ⟨hlo1,hlo2⟩)
  have hm0:0<m:=by rw [←hm,drop_at s q hlt,rowN_yes hnm];omega
  have hm1:q+m≤s.size:=by have:=rowN_le nmB (s.toList.drop q);rw [drop_len] at this;omega
  have HRW:Hid (RwAt s nmB q m q):=Lib.hid (by rw [←hm];exact RwAt.first)
  obtain ⟨v,hv⟩:∃v,Nm.wordN (s.extract q (q+m)).toList=v:=⟨_,rfl⟩
  obtain ⟨b,hb⟩:∃b,Nm.rightL (s.extract q (q+m)).toList=b:=⟨_,rfl⟩
  have hv0:=Nm.wordN_nonneg (s.extract q (q+m)).toList
  rw [hv] at hv0
  have hf:firstL (s.toList.drop q)=if (b||decide (0<v))=true then (0,⟨2,0,(s.toList.drop q).take m⟩,m) else (20,⟨0,0,[]⟩,0):=by
    rw [firstL_at hlt,if_neg (by rw [hd];decide),if_pos hl];unfold wordL;rw [hm];dsimp only;rw [←hv,←hb,ext_cut]
  have hn:=nextL_mid hq (by omega)
  rw [hf] at hn
  have HV:=Lib.hid hv
  have HB:=Lib.hid hb
  have HD:=Lib.hid hd
  have HT:Hid (s.extract q (q+m)=bs ((s.toList.drop q).take m)):=Lib.hid (bs_ext (by rw [ext_cut,bs_list]))
  have HX:Hid (bs (signL (s.toList.drop q))=⟨#[]⟩):=Lib.hid (by rw [drop_at s q hlt,sign_letter hl];rfl)
  have hz:(s.extract q (q+m)).size≤maxLen:=by unfold maxLen;simp;omega
  have hq34:((s[q].toNat:Int)==34)=false:=by simp;omega
  have e1:(q==s.size)=false:=by simp;omega
  have e2:((q:Int)==(s.size:Int))=false:=by simp;omega
  clear hq hf hb hv hd hm hnm hl
  have hcase:b=true∨(b=false∧0<v)∨(b=false∧¬0<v):=by cases b<;>simp<;>omega
  rcases hcase with rfl|⟨rfl,hv1⟩|⟨rfl,hv1⟩
  case' inl=>replace hn:nextL s.toList p=(0,⟨⟨2,0,(s.toList.drop q).take m⟩,q⟩,q+m):=hn
  case' inr.inl=>replace hn:nextL s.toList p=(0,⟨⟨2,0,(s.toList.drop q).take m⟩,q⟩,q+m):=by rw [hn,show (false||decide (0<v))=true by simpa using hv1];rfl
  case' inr.inr=>replace hn:nextL s.toList p=(20,tok0,q):=by rw [hn,show (false||decide (0<v))=false by simpa using hv1];rfl
  all_goals
    have HN:=Lib.hid hn
    clear hn
    go_enter Tryz.func74,Tryz.ntmps74
    go_wp2_with (first|(go_at_call 120;((with_reducible refine (rskip_as s p q _ hs hp HQ).mono ?_);rintro e w' ⟨rfl,rfl⟩))|(go_at_call 122;((with_reducible refine (rdigit_as _ _ _ HD).mono ?_);rintro e w' ⟨rfl,rfl⟩)))
    go_loop [7] (fun i=>∃k:Nat,k≤s.size∧i= .int .i64 k∧Hid (RwAt s nmB q m k)) (fun i=>s.size-(intOf i).toNat)
    case atStart=>exact ⟨q,by omega,rfl,HRW⟩
    case round=>
      obtain ⟨k,hk,rfl,hR⟩:=hrel
      by_cases hkl:k<s.size
      · cases hc:nmB s[k]
        · have HC:=Lib.hid hc
          obtain rfl:=hR.out.stop hkl hc
          clear hc
          have hne:¬(s.extract q (q+m)).toList=[]:=Nm.list_ne _ (by simp;omega)
          have hne2:(s.extract q (q+m)).toList.isEmpty=false:=Nm.list_isE _ (by simp;omega)
          go_wp2_with (first|(go_at_call 123;((with_reducible refine (rletter_as _ _ _ HC).mono ?_);rintro e w' ⟨rfl,rfl⟩))|(go_at_call 72;((with_reducible refine (rnright_as _ _ _ hz HB).mono ?_);rintro e w' ⟨rfl,rfl⟩))|(go_at_call 119;((with_reducible refine (rnword_as _ _ _ HV).mono ?_);rintro e w' ⟨rfl,rfl⟩))|(go_at_call 124;((with_reducible refine (rsign_as s q _ _ hs hlt HX).mono ?_);rintro e w1 ⟨rfl,hb⟩;obtain ⟨hz,hf,c0,c1,c2,c3⟩:=(Tz.fresh w 97).later hb;obtain ⟨k0,k1,k2,k3⟩:=set4 (.int .i64 0) (.int .i64 0) (.string ⟨#[]⟩) (.int .i64 0) c0 c1 c2 c3;have HB1:=Lib.hid (bl_step (bl_alloc (Below.refl w.heap.size w)) hb);clear hb)))
          first
            |exact bodyPost_ret (v:= .tuple #[.agg #[.int .i64 2,.int .i64 0,.string (s.extract q (q+m)),.int .i64 (q:Int)],.int .i64 ((q+m:Nat):Int),.int .i64 0]) (by simp [results,Tryz.results74,go_sem]) rfl ⟨by rw [HN.out,HT.out];rfl,bl_alloc (Below.refl _ _)⟩
            |exact bodyPost_ret (v:= .tuple #[.agg #[.int .i64 0,.int .i64 0,.string ⟨#[]⟩,.int .i64 0],.int .i64 (q:Int),.int .i64 20]) (by simp [results,Tryz.results74,go_sem,k0,k1,k2,k3]) rfl ⟨by rw [HN.out];rfl,bl_set4 HB1.out (Nat.le_refl _)⟩
        · have HC:=Lib.hid hc
          have HS:=Lib.hid (hR.out.step hkl hc)
          clear hc
          go_wp2_with (go_at_call 123;((with_reducible refine (rletter_as _ _ _ HC).mono ?_);rintro e w' ⟨rfl,rfl⟩))
          go_round
          case rel=>exact ⟨k+1,by omega,by go_num,HS⟩
          case measure=>simp [intOf];omega
      · obtain rfl:=hR.out.end_ hkl
        have hne:¬(s.extract q (q+m)).toList=[]:=Nm.list_ne _ (by simp;omega)
        have hne2:(s.extract q (q+m)).toList.isEmpty=false:=Nm.list_isE _ (by simp;omega)
        go_wp2_with (first|(go_at_call 72;((with_reducible refine (rnright_as _ _ _ hz HB).mono ?_);rintro e w' ⟨rfl,rfl⟩))|(go_at_call 119;((with_reducible refine (rnword_as _ _ _ HV).mono ?_);rintro e w' ⟨rfl,rfl⟩))|(go_at_call 124;((with_reducible refine (rsign_as s q _ _ hs hlt HX).mono ?_);rintro e w1 ⟨rfl,hb⟩;obtain ⟨hz,hf,c0,c1,c2,c3⟩:=(Tz.fresh w 97).later hb;obtain ⟨k0,k1,k2,k3⟩:=set4 (.int .i64 0) (.int .i64 0) (.string ⟨#[]⟩) (.int .i64 0) c0 c1 c2 c3;have HB1:=Lib.hid (bl_step (bl_alloc (Below.refl w.heap.size w)) hb);clear hb)))
        first
          |exact bodyPost_ret (v:= .tuple #[.agg #[.int .i64 2,.int .i64 0,.string (s.extract q (q+m)),.int .i64 (q:Int)],.int .i64 ((q+m:Nat):Int),.int .i64 0]) (by simp [results,Tryz.results74,go_sem]) rfl ⟨by rw [HN.out,HT.out];rfl,bl_alloc (Below.refl _ _)⟩
          |exact bodyPost_ret (v:= .tuple #[.agg #[.int .i64 0,.int .i64 0,.string ⟨#[]⟩,.int .i64 0],.int .i64 (q:Int),.int .i64 20]) (by simp [results,Tryz.results74,go_sem,k0,k1,k2,k3]) rfl ⟨by rw [HN.out];rfl,bl_set4 HB1.out (Nat.le_refl _)⟩
end Go.Proofs.YtkfihhagcimcmaaGreatDoor.Lx
namespace Go.Proofs.YtkfihhagcimcmaaGreatDoor.Lx
open Go.RowKit
theorem other_row {c:UInt8} (hd:dgB c=false) (hl:lwB c=false) (h:97≤(c.toNat:Int)):nmB c=false:=by
  have h1:=of_decide_eq_false hd
  have h2:=of_decide_eq_false hl
  exact decide_eq_false (by omega)
set_option maxRecDepth 100000 in
set_option maxHeartbeats 4000000 in
theorem rnext_sign (s:ByteArray) (p q:Nat) (w:World) (hs:s.size≤140737488355328) (hp:p≤s.size) (hq:SkAt s false p q) (hlt:q<s.size) (hd:dgB s[q]=false) (hl:lwB s[q]=false) (h34:¬(s[q].toNat:Int)=34):Calls Tryz.prog 74 #[.string s,.int .i64 (p:Int)] w (NxP (nextL s.toList p) w):=by
  have HQ:=Lib.hid hq
  obtain ⟨X,hX⟩:∃X,bs (signL (s.toList.drop q))=X:=⟨_,rfl⟩
  have hXl:X.toList=signL (s.toList.drop q):=by rw [←hX,bs_list]
  have hf:firstL (s.toList.drop q)=if signL (s.toList.drop q)=[] then (20,⟨0,0,[]⟩,0) else (0,⟨4,0,signL (s.toList.drop q)⟩,(signL (s.toList.drop q)).length):=by
    rw [firstL_at hlt,if_neg (by rw [hd];decide),if_neg (by rw [hl];decide),if_neg h34];rfl
  have hn:=nextL_mid hq (by omega)
  rw [hf,←hXl] at hn
  have HX:=Lib.hid hX
  have HD:=Lib.hid hd
  have HO:=Lib.hid (other_row hd hl)
  have HR:Hid (Nm.rightL ByteArray.empty.toList=false):=Lib.hid (by rw [Lib.toList_data];rfl)
  have HV:Hid (Nm.wordN ByteArray.empty.toList=0):=Lib.hid (by rw [Lib.toList_data];rfl)
  have hz:ByteArray.empty.size≤maxLen:=by decide
  have hq34:((s[q].toNat:Int)==34)=false:=by simpa using h34
  have e1:(q==s.size)=false:=by simp;omega
  have e2:((q:Int)==(s.size:Int))=false:=by simp;omega
  have hXz:X.size≤10000:=by
    rw [Nm.size_list,hXl]
    unfold signL
    cases h:signsL.find? fun w=>w.isPrefixOf (s.toList.drop q) with
    |none=>exact Nat.zero_le _
    |some x=>
      have h2:=List.mem_of_find?_eq_some h
      have h3:∀x∈signsL,x.length≤10000:=by decide
      exact h3 x h2
  clear hq hf hd hl h34 hX
  by_cases hX0:X.toList=[]
  case' pos=>
    rw [hX0] at hn
    replace hn:nextL s.toList p=(20,tok0,q):=hn
    obtain rfl:X=⟨#[]⟩:=bs_ext (hX0.trans (bs_list []).symm)
    clear hX0 hXl
  case' neg=>
    rw [if_neg hX0] at hn
    replace hn:nextL s.toList p=(0,⟨⟨4,0,X.toList⟩,q⟩,q+X.toList.length):=hn
    rw [←Nm.size_list] at hn
    have hXe:X.toList.isEmpty=false:=by cases h:X.toList;exact absurd h hX0;rfl
    clear hXl
  all_goals
    have HN:=Lib.hid hn
    clear hn
    by_cases h97:97≤(s[q].toNat:Int)
    case' pos=>have HNM:=Lib.hid (HO.out h97)
    case' neg=>obtain ⟨bb,hbb⟩:∃bb,nmB s[q]=bb:=⟨_,rfl⟩;have HNM:=Lib.hid hbb;clear hbb;cases bb
  all_goals
    go_enter Tryz.func74,Tryz.ntmps74
    go_wp2_with (first|(go_at_call 120;((with_reducible refine (rskip_as s p q _ hs hp HQ).mono ?_);rintro e w' ⟨rfl,rfl⟩))|(go_at_call 122;((with_reducible refine (rdigit_as _ _ _ HD).mono ?_);rintro e w' ⟨rfl,rfl⟩)))
    go_loop [7] (fun i=>i= .int .i64 (q:Int)) (fun _=>0)
    case atStart=>rfl
    case round=>
      obtain rfl:=hrel
      go_wp2_with (first|(go_at_call 123;((with_reducible refine (rletter_as _ _ _ HNM).mono ?_);rintro e w' ⟨rfl,rfl⟩))|(go_at_call 72;((with_reducible refine (rnright_as _ _ _ hz HR).mono ?_);rintro e w' ⟨rfl,rfl⟩))|(go_at_call 119;((with_reducible refine (rnword_as _ _ _ HV).mono ?_);rintro e w' ⟨rfl,rfl⟩))|(go_at_call 124;((with_reducible refine (rsign_as s q _ _ hs hlt HX).mono ?_);rintro e w1 ⟨rfl,hb⟩;obtain ⟨hz,hf,c0,c1,c2,c3⟩:=(Tz.fresh w 97).later hb;have HB1:=Lib.hid (bl_step (bl_alloc (Below.refl w.heap.size w)) hb);clear hb)))
      first
        | (obtain ⟨k0, k1, k2, k3⟩ := set4 (.int .i64 4) (.int .i64 0) (.string X) (.int .i64 (q : Int)) c0 c1 c2 c3
           exact bodyPost_ret (v:= .tuple #[.agg #[.int .i64 4,.int .i64 0,.string X,.int .i64 (q:Int)],.int .i64 ((q:Int)+(X.size:Int)),.int .i64 0]) (by simp [results,Tryz.results74,go_sem,k0,k1,k2,k3]) rfl ⟨by rw [HN.out];dsimp only [Tok.v];rw [bs_of];rfl,bl_set4 HB1.out (Nat.le_refl _)⟩)
        | (obtain ⟨k0, k1, k2, k3⟩ := set4 (.int .i64 0) (.int .i64 0) (.string ⟨#[]⟩) (.int .i64 0) c0 c1 c2 c3
           exact bodyPost_ret (v:= .tuple #[.agg #[.int .i64 0,.int .i64 0,.string ⟨#[]⟩,.int .i64 0],.int .i64 (q:Int),.int .i64 20]) (by simp [results,Tryz.results74,go_sem,k0,k1,k2,k3]) rfl ⟨by rw [HN.out];rfl,bl_set4 HB1.out (Nat.le_refl _)⟩)
theorem rnext_any (s:ByteArray) (p:Nat) (w:World) (hs:s.size≤140737488355328) (hp:p≤s.size):Calls Tryz.prog 74 #[.string s,.int .i64 (p:Int)] w (NxP (nextL s.toList p) w):=by
  obtain ⟨q,hq⟩:∃q,SkAt s false p q:=⟨_,skAt_of⟩
  obtain ⟨hpq,hqs⟩:=skAt_le hp hq
  by_cases he:q=s.size
  · exact rnext_end s p q w hs hp hq he
  · have hlt:q<s.size:=by omega
    cases hd:dgB s[q]
    · cases hl:lwB s[q]
      · by_cases h34:(s[q].toNat:Int)=34
        · exact rnext_text s p q w hs hp hq hlt h34
        · exact rnext_sign s p q w hs hp hq hlt hd hl h34
      · exact rnext_word s p q w hs hp hq hlt hd hl
    · exact rnext_num s p q w hs hp hq hlt hd
end Go.Proofs.YtkfihhagcimcmaaGreatDoor.Lx
namespace Go.Proofs.YtkfihhagcimcmaaGreatDoor.Lx
open Go.RowKit
def lexF:Nat→List UInt8→Nat→List Tok→List Tok×Nat×Int
  |0,_,_,_=>([],0,0)
  |f+1,L,p,acc=>
    if (nextL L p).1≠0 then ([],(nextL L p).2.2,(nextL L p).1)
    else if (nextL L p).2.1.x.k=0 then (acc,0,0)
    else lexF f L (nextL L p).2.2 (acc++[(nextL L p).2.1])
def lexL (L:List UInt8):List Tok×Nat×Int:=lexF (L.length+1) L 0 []
def LxAt (s:ByteArray) (R:List Tok×Nat×Int) (p:Nat) (acc:List Tok):Prop:=∃f,s.size-p<f∧lexF f s.toList p acc=R
theorem LxAt.first {s:ByteArray}:LxAt s (lexL s.toList) 0 []:=⟨s.toList.length+1,by rw [←Nm.size_list];omega,rfl⟩
section
variable {s:ByteArray} {R:List Tok×Nat×Int} {p n:Nat} {acc:List Tok} {E:Int} {t:Tok} (h:LxAt s R p acc) (hn:nextL s.toList p=(E,t,n))
include h hn
theorem LxAt.bad (hE:E≠0):R=([],n,E):=by
  obtain ⟨f,hf,h⟩:=h
  cases f
  · omega
  · rw [←h,lexF,hn,if_pos hE]
theorem LxAt.end_ (hE:E=0) (hk:t.x.k=0):R=(acc,0,0):=by
  obtain ⟨f,hf,h⟩:=h
  cases f
  · omega
  · rw [←h,lexF,hn,if_neg (by simpa using hE),if_pos hk]
theorem LxAt.step (hp:p≤s.size) (hE:E=0) (hk:t.x.k≠0):p+1≤n∧n≤s.size∧LxAt s R n (acc++[t]):=by
  have hle:=nextL_le (L:=s.toList) (p:=p) (by rw [←Nm.size_list];exact hp)
  rw [hn,←Nm.size_list] at hle
  have h1:=hle.2 hE hk
  have h2:=hle.1
  obtain ⟨f,hf,h⟩:=h
  cases f
  · omega
  · rename_i f
    refine ⟨h1,h2,f,by dsimp only at h1 h2;omega,?_⟩
    rw [←h,lexF,hn,if_neg (by simpa using hE),if_neg hk]
end
def Tok.enc (t:Tok):List Value:=[.int .i64 t.x.k,.int .i64 t.x.n,.string (bs t.x.t),.int .i64 t.at_]
theorem flat_get {α:Type} {s:Nat}:∀(L:List (List α)) (i r:Nat) (_:∀x∈L,x.length=s) (_:r<s) (hi:i<L.length),L.flatten[i*s+r]?=L[i][r]?
  |x::L,0,r,hs,hr,_=>by
    have:x.length=s:=hs x (by simp)
    rw [Nat.zero_mul,Nat.zero_add,List.flatten_cons,List.getElem?_append_left (by omega)]
    rfl
  |x::L,i+1,r,hs,hr,hi=>by
    have hx:x.length=s:=hs x (by simp)
    rw [List.flatten_cons,List.getElem?_append_right (by rw [hx,Nat.add_mul];omega)]
    have e:(i+1)*s+r-x.length=i*s+r:=by rw [hx,Nat.add_mul];omega
    rw [e,flat_get L i r (fun y hy=>hs y (by simp [hy])) hr (by simpa using hi)]
    rfl
def encs (L:List Tok):List Value:=(L.map Tok.enc).flatten
theorem encs_app (L:List Tok) (t:Tok):encs (L++[t])=encs L++t.enc:=by unfold encs;rw [List.map_append,List.flatten_append];simp
def TRow (w:World) (a:Option Addr) (L:List Tok):Prop:=∀j,(hj:j<L.length)→∃b off,a=some ⟨b,off,none⟩∧b<w.heap.size∧w.cell? ⟨b,off+j*4,none⟩=some (.int .i64 L[j].x.k)∧w.cell? ⟨b,off+j*4+1,none⟩=some (.int .i64 L[j].x.n)∧w.cell? ⟨b,off+j*4+2,none⟩=some (.string (bs L[j].x.t))∧w.cell? ⟨b,off+j*4+3,none⟩=some (.int .i64 L[j].at_)
theorem TRow.below {w w':World} {a:Option Addr} {L:List Tok} (h:TRow w a L) (hb:Below w.heap.size w w'):TRow w' a L:=fun j hj=>by
  obtain ⟨b,off,e,lt,h0,h1,h2,h3⟩:=h j hj
  exact ⟨b,off,e,Nat.lt_of_lt_of_le lt hb.size,(hb.cell (p:=⟨b,_,none⟩) lt).trans h0,(hb.cell (p:=⟨b,_,none⟩) lt).trans h1,(hb.cell (p:=⟨b,_,none⟩) lt).trans h2,(hb.cell (p:=⟨b,_,none⟩) lt).trans h3⟩
theorem trow_own {w:World} {base n:Nat} {E:TypeId} {v:Value} {L:List Tok} (h:w.ownsRow base E 4 v n (encs L)) (hn:n=L.length):∃a cap,v= .slice a n cap∧TRow w a L:=by
  rcases h.2 with ⟨rfl,hn0⟩|⟨g,cap,cur,rfl,hb,hg,hcap,hm,hsz,htake⟩
  · exact ⟨none,0,by rw [hn0],fun j hj=>by omega⟩
  · refine ⟨_,cap,rfl,fun j hj=>?_⟩
    have hl:∀r,r<4→w.cell? ⟨g,j*4+r,none⟩=L[j].enc[r]?:=fun r hr=>by
      have e1:=flat_get (L.map Tok.enc) j r (fun x hx=>by obtain ⟨t,-,rfl⟩:=List.mem_map.1 hx;rfl) hr (by simpa using hj)
      rw [List.getElem_map] at e1
      rw [←e1]
      show _=(encs L)[j*4+r]?
      rw [←htake,List.getElem?_take_of_lt (by omega),cell_of_row _ _ _ _ E (0,0) hg]
      simp
    have z:∀r,(0+j*4+r:Nat)=j*4+r:=fun r=>by omega
    refine ⟨g,0,rfl,(Array.getElem?_eq_some_iff.1 hg).1,?_,?_,?_,?_⟩
    · rw [show (0+j*4:Nat)=j*4+0 by omega,hl 0 (by decide)];rfl
    · rw [z,hl 1 (by decide)];rfl
    · rw [z,hl 2 (by decide)];rfl
    · rw [z,hl 3 (by decide)];rfl
theorem Tryz.info155:(Tryz.prog.info? 155).map (fun i=>(i.zero,i.size,i.bytes))=some (some (.agg #[.int .i64 0,.int .i64 0,.string ByteArray.empty,.int .i64 0]),4,40):=by kernel_rfl
theorem Tryz.info97:(Tryz.prog.info? 97).map (fun i=>(i.zero,i.size,i.bytes))=some (some (.agg #[.int .i64 0,.int .i64 0,.string ByteArray.empty,.int .i64 0]),4,40):=by kernel_rfl
theorem heap_new (w:World) (o:Obj):(w.alloc o).heap[w.heap.size]?=some o:=by show (w.heap.push o)[w.heap.size]?=_;simp
theorem new4 (W:World) {x0 x1 x2 x3:Value} {ty:TypeId} {i:Nat} {u:Value} (h:[x0,x1,x2,x3][i]?=some u):(W.alloc (.cells #[x0,x1,x2,x3] ty)).cell? ((⟨W.heap.size,0,none⟩:Addr).add i)=some u:=
  World.news_of_block (cs:=#[x0,x1,x2,x3]) (t:=ty) (fr:=(0,0)) (heap_new W _) i u h
def LexP (R:List Tok×Nat×Int) (w:World) (e:Ending) (w':World):Prop:=∃a n cap,n=R.1.length∧e= .returned (.tuple #[.slice a n cap,.int .i64 (R.2.1:Int),.int .i64 R.2.2])∧TRow w' a R.1∧Below w.heap.size w w'
theorem next_as (s:ByteArray) (p:Nat) (E:Int) (k n a:Int) (t:ByteArray) (z:Nat) (w:World) (hE:Ent w) (hs:s.size≤140737488355328) (hp:p≤s.size) (hr:Hid (nextL s.toList p=(E,⟨⟨k,n,t.toList⟩,a⟩,z))):
    Calls Tryz.prog 140 #[.string s,.int .i64 (p:Int)] w fun e w'=>e= .returned (.tuple #[.agg #[.int .i64 k,.int .i64 n,.string t,.int .i64 a],.int .i64 (z:Int),.int .i64 E])∧Below w.heap.size w w':=by
  have h:=next_any s p w hE hs hp
  rw [hr.out] at h
  refine h.mono fun e w' ⟨he,hb⟩=>⟨?_,hb⟩
  rw [he];dsimp only [Tok.v];rw [bs_of]
end Go.Proofs.YtkfihhagcimcmaaGreatDoor.Lx
namespace Go.Proofs.YtkfihhagcimcmaaGreatDoor.Lx
open Go.RowKit
theorem rnext_as (s:ByteArray) (p:Nat) (E:Int) (k n a:Int) (t:ByteArray) (z:Nat) (w:World) (hs:s.size≤140737488355328) (hp:p≤s.size) (hr:Hid (nextL s.toList p=(E,⟨⟨k,n,t.toList⟩,a⟩,z))):
    Calls Tryz.prog 74 #[.string s,.int .i64 (p:Int)] w fun e w'=>e= .returned (.tuple #[.agg #[.int .i64 k,.int .i64 n,.string t,.int .i64 a],.int .i64 (z:Int),.int .i64 E])∧Below w.heap.size w w':=by
  have h:=rnext_any s p w hs hp
  rw [hr.out] at h
  refine h.mono fun e w' ⟨he,hb⟩=>⟨?_,hb⟩
  rw [he];dsimp only [Tok.v];rw [bs_of]
set_option maxRecDepth 100000 in
set_option maxHeartbeats 4000000 in
theorem rlex_any (s:ByteArray) (w:World) (hs:s.size≤4096):Calls Tryz.prog 33 #[.string s] w (LexP (lexL s.toList) w):=by
  obtain ⟨R,hR⟩:∃R,lexL s.toList=R:=⟨_,rfl⟩
  have HX:Hid (LxAt s R 0 []):=Lib.hid (by rw [←hR];exact LxAt.first)
  rw [hR]
  clear hR
  obtain ⟨i0,hi,hz0,hz1,hz2⟩:=info_parts Tryz.info97
  have HI:=Lib.hid hi
  have HZ0:=Lib.hid hz0
  have HZ1:=Lib.hid hz1
  have HZ2:=Lib.hid hz2
  clear hi hz0 hz1 hz2
  go_enter Tryz.func33,Tryz.ntmps33
  go_wp2_with fail
  go_loopw [5,6,7] (fun v i j wr=>∃(k:Nat) (acc:List Tok) (a:Option Addr) (cp:Nat) (jj:Nat),jj≤k∧j= .int .i64 jj∧k≤s.size∧i= .int .i64 k∧acc.length≤k∧v= .slice a acc.length cp∧Hid (wr.ownsRow w.heap.size 97 4 (.slice a acc.length cp) acc.length (encs acc))∧Hid (LxAt s R k acc)∧Hid (Below (w.heap.size) w wr)) (fun _ i _ _=>s.size-(intOf i).toNat)
  case atStart=>exact ⟨0,[],none,0,0,by omega,rfl,by omega,rfl,by decide,rfl,Lib.hid (World.ownsRow_nil _ _ _ _),HX,Lib.hid (Below.refl _ _)⟩
  case round=>
    obtain ⟨k,acc,a,cp,jj,hjk,rfl,hk,rfl,hak,rfl,hO,hX,hB⟩:=hrel
    rename World=>wr
    obtain ⟨⟨E,⟨⟨tk,tn,tt⟩,ta⟩,z⟩,hr⟩:∃r,nextL s.toList k=r:=⟨_,rfl⟩
    have HR:Hid (nextL s.toList k=(E,⟨⟨tk,tn,(bs tt).toList⟩,ta⟩,z)):=Lib.hid (by rw [bs_list];exact hr)
    by_cases hE0:E=0
    · subst hE0
      by_cases hk0:tk=0
      · subst hk0
        have HRR:=Lib.hid (hX.out.end_ hr rfl rfl)
        clear hr
        go_wp2_with (go_at_call 74;((with_reducible refine (rnext_as s k 0 0 tn ta (bs tt) z _ (by omega) hk HR).mono ?_);rintro e w1 ⟨rfl,hb⟩;have HO:=Lib.hid (owns_below hO.out hb);have HB:=Lib.hid (bl_step hB.out hb);clear hb))
        obtain ⟨a',c',e1,hT⟩:=trow_own HO.out rfl
        cases e1
        go_ret3
        rw [HRR.out]
        exact ⟨a,acc.length,cp,rfl,rfl,hT.below (bl_alloc (Below.refl _ _)),bl_alloc HB.out⟩
      · have hk1:(tk==0)=false:=by simpa using hk0
        obtain ⟨s1,s2,s3⟩:=hX.out.step hr hk rfl hk0
        have HXS:=Lib.hid s3
        have HU:=Lib.hid (encs_app acc ⟨⟨tk,tn,tt⟩,ta⟩)
        have HLL:Hid ((acc++[(⟨⟨tk,tn,tt⟩,ta⟩:Tok)]).length=acc.length+1):=Lib.hid (by rw [List.length_append];rfl)
        have hacc:acc.length≤4096:=by omega
        clear hr hk0 s3
        generalize hL:acc.length=m at*
        have HL:=Lib.hid hL
        clear hL
        go_wp2_with (first|(go_at_call 74;((with_reducible refine (rnext_as s k 0 tk tn ta (bs tt) z _ (by omega) hk HR).mono ?_);rintro e w1 ⟨rfl,hb⟩;have HO:=Lib.hid (owns_below hO.out (bl_alloc (o:= .cells #[.int .i64 tk,.int .i64 tn,.string (bs tt),.int .i64 ta] 97) hb));have HB:=Lib.hid (bl_step hB.out hb);clear hb))|(at_builtin;refine wpList_append_own _ rfl _ _ 58 rfl w.heap.size 97 i0 (.agg #[.int .i64 0,.int .i64 0,.string ByteArray.empty,.int .i64 0]) 4 40 Tryz.underlying58 HI.out HZ0.out HZ1.out HZ2.out rfl (by decide) _ _ _ rfl (HO.out.alloc _) ⟨w1.heap.size+1,0,none⟩ 1 1 [.int .i64 tk,.int .i64 tn,.string (bs tt),.int .i64 ta] rfl rfl ?q2 ?q3 (by unfold maxLen;omega) (by omega) ?q5 ?_))
        case q2=>
          intro i u hu
          have e:(w1.alloc (.cells #[.int .i64 tk,.int .i64 tn,.string (bs tt),.int .i64 ta] 97)).heap.size=w1.heap.size+1:=by simp
          rw [←e]
          exact new4 _ hu
        case q3=>
          intro u hu
          simp only [List.mem_cons,List.not_mem_nil,or_false] at hu
          rcases hu with rfl|rfl|rfl|rfl<;>rfl
        case q5=>have:=HB.out.size;simp;omega
        intro v' w4 hown' hgrow4 hnil4
        have hOW:w4.ownsRow w.heap.size 97 4 v' (m+1) (encs (acc++[⟨⟨tk,tn,tt⟩,ta⟩])):=by rw [HU.out];exact hown'
        have hB4:=(bl_alloc (bl_alloc HB.out)).grown hgrow4 (by have:=HB.out.size;simp;omega) (own_base HO.out)
        obtain ⟨a',c',e1,hT⟩:=trow_own hOW HLL.out.symm
        subst e1
        have HOW:=Lib.hid hOW
        have HB4:=Lib.hid hB4
        clear hOW hB4 hT hown' hgrow4 hnil4
        go_wp2_with fail
        go_roundw
        case rel=>exact ⟨z,acc++[⟨⟨tk,tn,tt⟩,ta⟩],a',c',jj+1,by omega,by go_num,s2,rfl,by rw [HLL.out];omega,by rw [HLL.out],by rw [HLL.out];exact HOW,HXS,HB4⟩
        case measure=>simp [intOf];omega
    · have hE1:(E !=0)=true:=by simpa using hE0
      have HRR:=Lib.hid (hX.out.bad hr hE0)
      clear hr hE0
      go_wp2_with (go_at_call 74;((with_reducible refine (rnext_as s k E tk tn ta (bs tt) z _ (by omega) hk HR).mono ?_);rintro e w1 ⟨rfl,hb⟩;have HB:=Lib.hid (bl_step hB.out hb);clear hb))
      go_ret3
      rw [HRR.out]
      exact ⟨none,0,0,rfl,rfl,fun j hj=>absurd hj (Nat.not_lt_zero _),bl_alloc HB.out⟩
end Go.Proofs.YtkfihhagcimcmaaGreatDoor.Lx
