/- LUe, LUf -/
import Derived.Test.YtkfihhagcimcmaaGreatDoorChecked
import Derived.Test.YtkfihhagcimcmaaGreatDoorY0
import Derived.Test.YtkfihhagcimcmaaGreatDoorYap
namespace Go.Proofs.YtkfihhagcimcmaaGreatDoor.Nu
open Go.RowKit
def upFrom (s:ByteArray) (f i:Nat):Prop:=∀j (h:j<s.size),f≤j→j<i→dgc s[j]=true
theorem upFrom_first (s:ByteArray) (f:Nat):upFrom s f f:=fun _ _ h h'=>absurd h (by omega)
theorem upFrom_succ {s:ByteArray} {f i:Nat} (h:upFrom s f i) (hi:i<s.size) (h1:48≤(s[i].toNat:Int)) (h2:(s[i].toNat:Int)≤57):upFrom s f (i+1):=by
  intro j hj hf hjk
  by_cases e:j=i
  · subst e;simp [dgc];omega
  · exact h j hj hf (by omega)
structure Off (s d:ByteArray) (neg:Bool) (f:Nat):Prop where
  size:s.size=d.size+f
  at_:∀j (h:j<d.size) (h':f+j<s.size),d[j]=s[f+j]
  neg1:neg=decide (f=1)
theorem Off.zero {s:ByteArray} (h:negS s=false):Off s (trimS s) (negS s) 0:=by
  have e:=trim_pos h
  refine ⟨by rw [e];rfl,fun j hj hj'=>?_,by rw [h];rfl⟩
  have:(trimS s).data.toList=s.data.toList:=by rw [e]
  rw [get_list,get_list]
  simp [this]
theorem Off.one {s:ByteArray} (h:negS s=true):Off s (trimS s) (negS s) 1:=by
  have h0:=neg_size h
  have e:=trim_size_neg h
  refine ⟨by omega,fun j hj hj'=>?_,by rw [h];rfl⟩
  rw [trim_get_neg h j hj (by omega)]
  have:∀a b (ha:a<s.size) (hb:b<s.size),a=b→s[a]=s[b]:=fun a b ha hb e=>by subst e;rfl
  exact this _ _ _ _ (by omega)
theorem Off.bad {s d:ByteArray} {neg:Bool} {f i:Nat} (h:Off s d neg f) (hf:f≤i) (hi:i<s.size) (hb:(s[i].toNat:Int)<48∨57<(s[i].toNat:Int)):formOk neg d.data.toList=false:=by
  have hs:=h.size
  have e:=h.at_ (i-f) (by omega) (by omega)
  have e2:s[f+(i-f)]'(by omega)=s[i]:=by
    have:∀a b (ha:a<s.size) (hb:b<s.size),a=b→s[a]=s[b]:=fun a b ha hb e=>by subst e;rfl
    exact this _ _ _ _ (by omega)
  exact form_nat (nat_bad (k:=i-f) (by omega) (by rw [e,e2];exact hb))
theorem Off.empty {s d:ByteArray} {neg:Bool} {f:Nat} (h:Off s d neg f) (hs:¬f<s.size):formOk neg d.data.toList=false:=
  form_nat (nat_empty (by have:=h.size;omega))
theorem Off.nought {s d:ByteArray} {neg:Bool} {f:Nat} (h:Off s d neg f) (hs:f<s.size) (h0:(s[f].toNat:Int)=48) (h1:f+1<s.size∨f=1):formOk neg d.data.toList=false:=by
  have hz:=h.size
  have e:=h.at_ 0 (by omega) (by omega)
  have e0:d[0]'(by omega)=s[f]:=e
  by_cases h2:f+1<s.size
  · exact form_nat (nat_lead (by omega) (by rw [e0];exact h0) (by omega))
  · obtain rfl:f=1:=by omega
    have hn:neg=true:=h.neg1
    subst hn
    have hl:d.data.toList.length=1:=by rw [←size_list];omega
    obtain ⟨c,hc⟩:=List.length_eq_one_iff.1 hl
    have hd:d[0]'(by omega)=c:=by
      rw [get_list];simp [hc]
    have hc48:c=48:=by
      rw [hd] at e0
      apply UInt8.toNat.inj
      rw [e0];simp;omega
    apply form_zero
    rw [Lib.toList_data,hc,hc48];rfl
theorem Off.good {s d:ByteArray} {neg:Bool} {f:Nat} (h:Off s d neg f) (hs:f<s.size) (h0:¬(s[f].toNat:Int)=48∨(s.size≤f+1∧f≠1)) (hu:upFrom s f s.size):formOk neg d.data.toList=true:=by
  have hz:=h.size
  have e0:d[0]'(by omega)=s[f]:=h.at_ 0 (by omega) (by omega)
  have hn:natL d.data.toList=true:=by
    refine nat_end (by omega) ?_ ?_
    · rw [e0];rcases h0 with h0|h0
      · exact .inl h0
      · right;omega
    · intro j hj hjk
      rw [h.at_ j hj (by omega)]
      exact hu (f+j) (by omega) (by omega) (by omega)
  have hneg:=h.neg1
  by_cases hf:f=1
  · subst hf
    obtain rfl:neg=true:=hneg
    refine form_neg ?_ hn
    rw [Lib.toList_data]
    cases e:(d.data.toList==[48]) with
    |false=>rfl
    |true=>
      exfalso
      have e':d.data.toList=[48]:=by simpa using e
      have:d[0]'(by omega)=48:=by rw [get_list];simp [e']
      rw [this] at e0
      rcases h0 with h0|h0
      · apply h0;rw [←e0];rfl
      · exact h0.2 rfl
  · obtain rfl:neg=false:=by simpa [hf] using hneg
    exact form_pos hn
structure FromLeft (s d:ByteArray) (f i:Nat) (n:Int):Prop where
  fle:f≤i
  val:n=vr (d.data.toList.take (i-f))
  lo:0≤n
  hi:n<10^(i-f)
theorem FromLeft.first (s d:ByteArray) (f:Nat):FromLeft s d f f 0:=⟨Nat.le_refl _,by simp [vr],by omega,by simp⟩
theorem FromLeft.bound {s d:ByteArray} {f i:Nat} {n:Int} (h:FromLeft s d f i n) (hk:i-f≤16):0≤n∧n≤10000000000000000:=by
  have h1:(10:Nat)^(i-f)≤10^16:=Nat.pow_le_pow_right (by decide) hk
  have h3:((10:Int)^(i-f))=((10^(i-f):Nat):Int):=by simp
  have:=h.lo;have:=h.hi
  omega
theorem FromLeft.step {s d:ByteArray} {neg:Bool} {f i:Nat} {n:Int} (h:FromLeft s d f i n) (ho:Off s d neg f) (hi:i<s.size) (h1:48≤(s[i].toNat:Int)) (h2:(s[i].toNat:Int)≤57):FromLeft s d f (i+1) (10*n+(s[i].toNat:Int)-48):=by
  obtain ⟨g1,g2,g3,g4⟩:=h
  have hz:=ho.size
  have e:=ho.at_ (i-f) (by omega) (by omega)
  have e2:s[f+(i-f)]'(by omega)=s[i]:=by
    have:∀a b (ha:a<s.size) (hb:b<s.size),a=b→s[a]=s[b]:=fun a b ha hb e=>by subst e;rfl
    exact this _ _ _ _ (by omega)
  have ht:=vr_take d.data.toList (i-f) (by rw [←size_list];omega)
  rw [←get_list d (i-f) (by omega),e,e2] at ht
  have e3:i+1-f=(i-f)+1:=by omega
  refine ⟨by omega,by rw [e3,ht,g2],by omega,?_⟩
  rw [e3,Int.pow_succ];omega
theorem FromLeft.last {s d:ByteArray} {neg:Bool} {f:Nat} {n:Int} (h:FromLeft s d f s.size n) (ho:Off s d neg f):n=vr d.data.toList:=by
  have:=h.val
  have hz:=ho.size
  rw [List.take_of_length_le (by rw [←size_list];omega)] at this
  exact this
theorem upFrom_at {s:ByteArray} {f:Nat} (h:upFrom s f s.size) (i:Nat) (hi:i<s.size) (hf:f≤i):48≤(s[i].toNat:Int)∧(s[i].toNat:Int)≤57:=by
  have:=h i hi hf hi
  simp [dgc] at this
  omega
end Go.Proofs.YtkfihhagcimcmaaGreatDoor.Nu
namespace Go.Proofs.YtkfihhagcimcmaaGreatDoor.Nu
open Go.RowKit
theorem ne_empty {s:ByteArray} (h:0<s.size):¬s=ByteArray.empty:=by intro e;subst e;exact absurd h (by decide)
theorem ret_much {neg:Bool} {D:List UInt8} {n:Int} (h:formOk neg D=true) (h':¬16<D.length) (hv:n=vr D) (hm:9007199254740992<n):Ending.returned (.tuple #[.int .i64 0,.int .i64 25])= .returned (.tuple #[.int .i64 (readV neg D),.int .i64 (readE neg D)]):=by
  have:inB (sgnV neg (vr D))=false:=by subst hv;cases neg<;>simp [sgnV]<;>exact inB_mkno (by omega)
  exact ret_two (by simp [readV,h,h',this,outV]) (by simp [readE,h,h',this,outE])
theorem ret_sgn {neg:Bool} {D:List UInt8} {n v:Int} (h:formOk neg D=true) (h':¬16<D.length) (hn:n=vr D) (hv:v=sgnV neg n) (h0:0≤n) (hm:n≤9007199254740992):Ending.returned (.tuple #[.int .i64 v,.int .i64 0])= .returned (.tuple #[.int .i64 (readV neg D),.int .i64 (readE neg D)]):=by
  subst hn;subst hv
  have:inB (sgnV neg (vr D))=true:=by cases neg<;>simp [sgnV]<;>exact inB_mk (by omega) (by omega)
  exact ret_two (by simp [readV,h,h',this,outV]) (by simp [readE,h,h',this,outE])
theorem ret_plus {neg:Bool} {D:List UInt8} {n:Int} (h:formOk neg D=true) (h':¬16<D.length) (hn:n=vr D) (hg:neg=decide ((0:Nat)=1)) (h0:0≤n) (hm:n≤9007199254740992):Ending.returned (.tuple #[.int .i64 n,.int .i64 0])= .returned (.tuple #[.int .i64 (readV neg D),.int .i64 (readE neg D)]):=
  ret_sgn h h' hn (by subst hg;rfl) h0 hm
theorem ret_minus {neg:Bool} {D:List UInt8} {n:Int} (h:formOk neg D=true) (h':¬16<D.length) (hn:n=vr D) (hg:neg=decide ((1:Nat)=1)) (h0:0≤n) (hm:n≤9007199254740992):Ending.returned (.tuple #[.int .i64 (-n),.int .i64 0])= .returned (.tuple #[.int .i64 (readV neg D),.int .i64 (readE neg D)]):=
  ret_sgn h h' hn (by subst hg;rfl) h0 hm
set_option maxHeartbeats 4000000 in
theorem rread_0 (s d:ByteArray) (neg:Bool) (w:World) (hs:s.size≤maxLen) (ho:Off s d neg 0) (h0:0<s.size) (h45:¬(s[0].toNat:Int)=45):
    Calls Tryz.prog 89 #[.string s] w fun e w'=>e= .returned (.tuple #[.int .i64 (readV neg d.data.toList),.int .i64 (readE neg d.data.toList)])∧w=w':=by
  unfold maxLen at hs
  have HO:=Lib.hid ho
  have hz:s.size=d.size+0:=ho.size
  have hd1:s.size≤d.size+0:=by omega
  have hd2:d.size+0≤s.size:=by omega
  clear ho hz
  have hE1:=ne_empty h0
  have hE2:((s.size:Int)==0)=false:=by simp;exact hE1
  by_cases hf:0<s.size
  · by_cases h48:(s[0].toNat:Int)=48∧(0+1<s.size∨0=1)
    · have HF:=Lib.hid (HO.out.nought hf h48.1 h48.2)
      obtain ⟨h48,h1⟩:=h48
      have h1x:1<s.size:=by omega
      clear h1
      go_enter Tryz.func89,Tryz.ntmps89
      go_wp2
      all_goals
        go_ret2
        exact ⟨ret_form HF.out,rfl⟩
    · have HL:=Lib.hid (show ¬(s[0].toNat:Int)=48∨(s.size≤0+1∧0≠1) by omega)
      have hc:((s[0].toNat:Int)=48∧¬1<s.size)∨¬(s[0].toNat:Int)=48:=by omega
      clear h48
      rcases hc with ⟨h4,h1⟩|h4
      all_goals
        go_enter Tryz.func89,Tryz.ntmps89
        go_wp2
        go_loop [5] (fun i=>∃k:Nat,0≤k∧k≤s.size∧i= .int .i64 k∧upFrom s 0 k) (fun i=>s.size-(intOf i).toNat)
        case atStart=>exact ⟨0,by omega,by omega,rfl,upFrom_first s 0⟩
        case round=>
          obtain ⟨k,hfk,hk,rfl,hu⟩:=hrel
          have H:=Lib.hid hu
          clear hu
          by_cases hlt:k<s.size
          · go_wp2
            all_goals first
              | (go_round
                 case rel=>exact ⟨k+1,by omega,by omega,by go_num,upFrom_succ H.out hlt (by omega) (by omega)⟩
                 case measure=>simp [intOf];omega)
              | (go_ret2
                 exact ⟨ret_form (HO.out.bad hfk hlt (by omega)),rfl⟩)
          · obtain rfl:k=s.size:=by omega
            have HF:=Lib.hid (HO.out.good hf HL.out H.out)
            by_cases hl:16<d.size
            · have HN:=Lib.hid (show 16<d.data.toList.length by rw [←size_list];exact hl)
              go_wp2
              all_goals
                go_ret2
                exact ⟨ret_long HF.out HN.out,rfl⟩
            · have HN:=Lib.hid (show ¬16<d.data.toList.length by rw [←size_list];exact hl)
              go_wp2
              go_loop [6,7] (fun n i=>∃(k:Nat) (n0:Int),0≤k∧k≤s.size∧i= .int .i64 k∧n= .int .i64 n0∧FromLeft s d 0 k n0) (fun _ i=>s.size-(intOf i).toNat)
              case atStart=>exact ⟨0,0,by omega,by omega,rfl,rfl,FromLeft.first s d 0⟩
              case round=>
                obtain ⟨k,n,hfk,hk,rfl,rfl,hI⟩:=hrel
                have HI:=Lib.hid hI
                obtain ⟨b1,b2⟩:=hI.bound (by omega)
                clear hI
                by_cases hlt:k<s.size
                · obtain ⟨g1,g2⟩:=upFrom_at H.out k hlt hfk
                  go_wp2
                  go_round
                  case rel=>exact ⟨k+1,_,by omega,by omega,by go_num,rfl,HI.out.step HO.out hlt g1 g2⟩
                  case measure=>simp [intOf];omega
                · obtain rfl:k=s.size:=by omega
                  have HV:=Lib.hid (HI.out.last HO.out)
                  have HG:=Lib.hid HO.out.neg1
                  by_cases hm:9007199254740992<n
                  · go_wp2
                    go_ret2
                    exact ⟨ret_much HF.out HN.out HV.out hm,rfl⟩
                  · go_wp2
                    go_ret2
                    exact ⟨ret_plus HF.out HN.out HV.out HG.out b1 (by omega),rfl⟩
  · exact absurd h0 hf
set_option maxHeartbeats 4000000 in
theorem rread_1 (s d:ByteArray) (neg:Bool) (w:World) (hs:s.size≤maxLen) (ho:Off s d neg 1) (h0:0<s.size) (h45:(s[0].toNat:Int)=45):
    Calls Tryz.prog 89 #[.string s] w fun e w'=>e= .returned (.tuple #[.int .i64 (readV neg d.data.toList),.int .i64 (readE neg d.data.toList)])∧w=w':=by
  unfold maxLen at hs
  have HO:=Lib.hid ho
  have hz:s.size=d.size+1:=ho.size
  have hd1:s.size≤d.size+1:=by omega
  have hd2:d.size+1≤s.size:=by omega
  clear ho hz
  have hE1:=ne_empty h0
  have hE2:((s.size:Int)==0)=false:=by simp;exact hE1
  by_cases hf:1<s.size
  · have hE3:((s.size:Int)==1)=false:=by simp;omega
    by_cases h48:(s[1].toNat:Int)=48∧(1+1<s.size∨1=1)
    · have HF:=Lib.hid (HO.out.nought hf h48.1 h48.2)
      obtain ⟨h48,h1⟩:=h48
      clear h1
      go_enter Tryz.func89,Tryz.ntmps89
      go_wp2
      all_goals
        go_ret2
        exact ⟨ret_form HF.out,rfl⟩
    · have HL:=Lib.hid (show ¬(s[1].toNat:Int)=48∨(s.size≤1+1∧1≠1) by omega)
      have hc:¬(s[1].toNat:Int)=48:=by omega
      clear h48
      skip
      all_goals
        go_enter Tryz.func89,Tryz.ntmps89
        go_wp2
        go_loop [5] (fun i=>∃k:Nat,1≤k∧k≤s.size∧i= .int .i64 k∧upFrom s 1 k) (fun i=>s.size-(intOf i).toNat)
        case atStart=>exact ⟨1,by omega,by omega,rfl,upFrom_first s 1⟩
        case round=>
          obtain ⟨k,hfk,hk,rfl,hu⟩:=hrel
          have H:=Lib.hid hu
          clear hu
          by_cases hlt:k<s.size
          · go_wp2
            all_goals first
              | (go_round
                 case rel=>exact ⟨k+1,by omega,by omega,by go_num,upFrom_succ H.out hlt (by omega) (by omega)⟩
                 case measure=>simp [intOf];omega)
              | (go_ret2
                 exact ⟨ret_form (HO.out.bad hfk hlt (by omega)),rfl⟩)
          · obtain rfl:k=s.size:=by omega
            have HF:=Lib.hid (HO.out.good hf HL.out H.out)
            by_cases hl:16<d.size
            · have HN:=Lib.hid (show 16<d.data.toList.length by rw [←size_list];exact hl)
              go_wp2
              all_goals
                go_ret2
                exact ⟨ret_long HF.out HN.out,rfl⟩
            · have HN:=Lib.hid (show ¬16<d.data.toList.length by rw [←size_list];exact hl)
              go_wp2
              go_loop [6,7] (fun n i=>∃(k:Nat) (n0:Int),1≤k∧k≤s.size∧i= .int .i64 k∧n= .int .i64 n0∧FromLeft s d 1 k n0) (fun _ i=>s.size-(intOf i).toNat)
              case atStart=>exact ⟨1,0,by omega,by omega,rfl,rfl,FromLeft.first s d 1⟩
              case round=>
                obtain ⟨k,n,hfk,hk,rfl,rfl,hI⟩:=hrel
                have HI:=Lib.hid hI
                obtain ⟨b1,b2⟩:=hI.bound (by omega)
                clear hI
                by_cases hlt:k<s.size
                · obtain ⟨g1,g2⟩:=upFrom_at H.out k hlt hfk
                  go_wp2
                  go_round
                  case rel=>exact ⟨k+1,_,by omega,by omega,by go_num,rfl,HI.out.step HO.out hlt g1 g2⟩
                  case measure=>simp [intOf];omega
                · obtain rfl:k=s.size:=by omega
                  have HV:=Lib.hid (HI.out.last HO.out)
                  have HG:=Lib.hid HO.out.neg1
                  by_cases hm:9007199254740992<n
                  · go_wp2
                    go_ret2
                    exact ⟨ret_much HF.out HN.out HV.out hm,rfl⟩
                  · go_wp2
                    go_ret2
                    exact ⟨ret_minus HF.out HN.out HV.out HG.out b1 (by omega),rfl⟩
  · have HF:=Lib.hid (HO.out.empty hf)
    skip
    go_enter Tryz.func89,Tryz.ntmps89
    go_wp2
    go_ret2
    exact ⟨ret_form HF.out,rfl⟩
set_option maxHeartbeats 400000 in
theorem rread_nil (s d:ByteArray) (neg:Bool) (w:World) (HF:Hid (formOk neg d.data.toList=false)) (h0:¬0<s.size):
    Calls Tryz.prog 89 #[.string s] w fun e w'=>e= .returned (.tuple #[.int .i64 (readV neg d.data.toList),.int .i64 (readE neg d.data.toList)])∧w=w':=by
  have hE2:((s.size:Int)==0)=true:=by simp;exact ByteArray.size_eq_zero_iff.1 (by omega)
  have hE1:=ByteArray.size_eq_zero_iff.1 (show s.size=0 by omega)
  go_enter Tryz.func89,Tryz.ntmps89
  go_wp2
  go_ret2
  exact ⟨ret_form HF.out,rfl⟩
theorem rread_any (s:ByteArray) (w:World) (hs:s.size≤maxLen):Calls Tryz.prog 89 #[.string s] w fun e w'=>e= .returned (.tuple #[.int .i64 (readV (negS s) (trimS s).data.toList),.int .i64 (readE (negS s) (trimS s).data.toList)])∧w=w':=by
  by_cases h0:0<s.size
  · have hg:=neg_get s h0
    cases hn:negS s
    · have ho:=Off.zero hn
      rw [hn] at ho hg
      exact rread_0 s _ false w hs ho h0 (by simpa using hg.symm)
    · have ho:=Off.one hn
      rw [hn] at ho hg
      exact rread_1 s _ true w hs ho h0 (by simpa using hg.symm)
  · have hn:negS s=false:=by cases e:negS s;rfl;exact absurd (neg_size e) h0
    have ho:=Off.zero hn
    exact rread_nil s _ _ w (ho.empty (by omega)) h0
end Go.Proofs.YtkfihhagcimcmaaGreatDoor.Nu
