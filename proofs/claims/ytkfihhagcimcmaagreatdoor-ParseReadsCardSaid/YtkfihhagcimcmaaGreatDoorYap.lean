/- LUc, LUd, LMa, LWa, LWb, LWc, LWd -/
import Derived.Test.YtkfihhagcimcmaaGreatDoorChecked
import Derived.Test.YtkfihhagcimcmaaGreatDoorY0
import Derived.Test.YtkfihhagcimcmaaGreatDoorYac
import Derived.Test.YtkfihhagcimcmaaGreatDoorYan
import Derived.Test.YtkfihhagcimcmaaGreatDoorYao
namespace Go.Proofs.YtkfihhagcimcmaaGreatDoor.Nu
open Go.RowKit
set_option maxHeartbeats 400000 in
theorem hasp_any (s:ByteArray) (w:World) (hs:s.size≤maxLen):Calls Tryz.prog 194 #[.string s,.string {data:=#[45]}] w fun e w'=>e= .returned (.bool (negS s))∧w=w':=by
  unfold maxLen at hs
  by_cases h0:0<s.size
  · go_enter Tryz.func194,Tryz.ntmps194
    go_wp2
    go_ret
    exact ⟨ret_bool (neg_test s h0),rfl⟩
  · have hn:negS s=false:=by cases e:negS s;rfl;exact absurd (neg_size e) h0
    rw [hn];clear hn
    go_enter Tryz.func194,Tryz.ntmps194
    go_wp2
    go_ret
    exact ⟨rfl,rfl⟩
set_option maxHeartbeats 400000 in
theorem trim_any (s:ByteArray) (w:World) (hs:s.size≤maxLen):Calls Tryz.prog 132 #[.string s,.string {data:=#[45]}] w fun e w'=>e= .returned (.string (trimS s))∧w=w':=by
  cases hn:negS s
  · go_enter Tryz.func132,Tryz.ntmps132
    go_wp2_with (first|(go_at_call 194;refine (hasp_any _ _ hs).mono ?_;rintro e w' ⟨rfl,rfl⟩)|(go_at_call 159;go_in))
    go_ret
    exact ⟨ret_str (trim_pos hn).symm,rfl⟩
  · have h0:=neg_size hn
    unfold maxLen at hs
    go_enter Tryz.func132,Tryz.ntmps132
    go_wp2_with (first|(go_at_call 194;refine (hasp_any _ _ (by unfold maxLen;exact hs)).mono ?_;rintro e w' ⟨rfl,rfl⟩)|(go_at_call 159;go_in))
    go_ret
    exact ⟨ret_str (trim_neg hn).symm,rfl⟩
set_option maxHeartbeats 400000 in
theorem natural_any (s:ByteArray) (w:World) (hs:s.size≤maxLen):Calls Tryz.prog 133 #[.string s] w fun e w'=>e= .returned (.bool (natL s.data.toList))∧w=w':=by
  unfold maxLen at hs
  by_cases h0:0<s.size
  · have hn:=list_ne s h0
    have hE:=list_isE s h0
    by_cases h48:(s[0].toNat:Int)=48∧1<s.size
    · obtain ⟨h4,h1⟩:=h48
      go_enter Tryz.func133,Tryz.ntmps133
      go_wp2
      go_ret
      exact ⟨ret_bool (nat_lead h0 h4 h1).symm,rfl⟩
    · have HL:=Lib.hid (show ¬(s[0].toNat:Int)=48∨s.size≤1 by omega)
      have hc:((s[0].toNat:Int)=48∧¬1<s.size)∨¬(s[0].toNat:Int)=48:=by omega
      clear h48
      rcases hc with ⟨h4,h1⟩|h4
      all_goals
        go_enter Tryz.func133,Tryz.ntmps133
        go_wp2
        go_loop [18] (fun i=>∃k:Nat,k≤s.size∧i= .int .i64 k∧upTo s k) (fun i=>s.size-(intOf i).toNat)
        case atStart=>exact ⟨0,by omega,rfl,upTo_zero s⟩
        case round=>
          obtain ⟨k,hk,rfl,hu⟩:=hrel
          have H:=Lib.hid hu
          clear hu
          by_cases hlt:k<s.size
          · go_wp2
            all_goals first
              | (go_round
                 case rel=>exact ⟨k+1,by omega,by go_num,upTo_succ H.out hlt (by omega) (by omega)⟩
                 case measure=>simp [intOf];omega)
              | (go_ret
                 exact ⟨ret_bool (nat_bad hlt (by omega)).symm,rfl⟩)
          · obtain rfl:k=s.size:=by omega
            go_wp2
            go_ret
            exact ⟨ret_bool (nat_end h0 HL.out H.out).symm,rfl⟩
  · have hn:=list_nil s h0
    go_enter Tryz.func133,Tryz.ntmps133
    go_wp2
    go_ret
    exact ⟨ret_bool (nat_empty h0).symm,rfl⟩
end Go.Proofs.YtkfihhagcimcmaaGreatDoor.Nu
namespace Go.Proofs.YtkfihhagcimcmaaGreatDoor.Nu
open Go.RowKit
def sgnV (neg:Bool) (v:Int):Int:=bif neg then-v else v
def readV (neg:Bool) (D:List UInt8):Int:=bif formOk neg D then (if 16<D.length then 0 else outV true (inB (sgnV neg (vr D))) (sgnV neg (vr D))) else 0
def readE (neg:Bool) (D:List UInt8):Int:=bif formOk neg D then (if 16<D.length then 25 else outE true (inB (sgnV neg (vr D)))) else 2
theorem ret_form {neg:Bool} {D:List UInt8} (h:formOk neg D=false):Ending.returned (.tuple #[.int .i64 0,.int .i64 2])= .returned (.tuple #[.int .i64 (readV neg D),.int .i64 (readE neg D)]):=
  ret_two (by simp [readV,h]) (by simp [readE,h])
theorem ret_long {neg:Bool} {D:List UInt8} (h:formOk neg D=true) (h':16<D.length):Ending.returned (.tuple #[.int .i64 0,.int .i64 25])= .returned (.tuple #[.int .i64 (readV neg D),.int .i64 (readE neg D)]):=
  ret_two (by simp [readV,h,h']) (by simp [readE,h,h'])
theorem ret_val {neg:Bool} {D:List UInt8} {v:Int} (h:formOk neg D=true) (h':¬16<D.length) (hv:v=sgnV neg (vr D)):Ending.returned (.tuple #[.int .i64 (outV true (inB v) v),.int .i64 (outE true (inB v))])= .returned (.tuple #[.int .i64 (readV neg D),.int .i64 (readE neg D)]):=
  ret_two (by simp [readV,h,h',hv]) (by simp [readE,h,h',hv])
theorem trim_as (s d:ByteArray) (w:World) (hs:s.size≤maxLen) (hd:Hid (d=trimS s)):Calls Tryz.prog 132 #[.string s,.string {data:=#[45]}] w fun e w'=>e= .returned (.string d)∧w=w':=by
  rw [hd.out];exact trim_any s w hs
theorem natural_as (s:ByteArray) (b:Bool) (w:World) (hs:s.size≤maxLen) (hb:Hid (natL s.data.toList=b)):Calls Tryz.prog 133 #[.string s] w fun e w'=>e= .returned (.bool b)∧w=w':=by
  rw [←hb.out];exact natural_any s w hs
theorem FromEnd.bound16 {s:ByteArray} {k:Nat} {n p:Int} (h:FromEnd s k n p) (hk:k≤16):0≤n∧n≤10000000000000000:=by
  have h1:(10:Nat)^k≤10^16:=Nat.pow_le_pow_right (by decide) hk
  have h3:((10:Int)^k)=((10^k:Nat):Int):=by simp
  have:=h.pow;have:=h.lo;have:=h.hi
  omega
set_option maxHeartbeats 4000000 in
theorem read_nat (s d:ByteArray) (neg:Bool) (w:World) (hs:s.size≤maxLen) (hds:d.size≤s.size) (hN:Hid (d=trimS s)) (hn:(neg=true∧d.size<s.size)∨(neg=false∧¬d.size<s.size)) (hb:natL d.data.toList=true):
    Calls Tryz.prog 87 #[.string s] w fun e w'=>e= .returned (.tuple #[.int .i64 (readV neg d.data.toList),.int .i64 (readE neg d.data.toList)])∧w=w':=by
  unfold maxLen at hs
  by_cases hz:neg=true∧(d.toList==[48])=true
  · obtain ⟨rfl,hz⟩:=hz
    have HF:=Lib.hid (form_zero hz)
    have HB:=Lib.hid hb
    have hn':d.size<s.size:=by rcases hn with h|h;exact h.2;exact absurd h.1 (by decide)
    clear hb hn
    go_enter Tryz.func87,Tryz.ntmps87
    go_wp2_with (first|(go_at_call 132;refine (trim_as _ d _ (by unfold maxLen;omega) hN).mono ?_;rintro e w' ⟨rfl,rfl⟩)|(go_at_call 133;refine (natural_as _ _ _ (by unfold maxLen;omega) HB).mono ?_;rintro e w' ⟨rfl,rfl⟩))
    go_ret2
    exact ⟨ret_form HF.out,rfl⟩
  · have HF:Hid (formOk neg d.data.toList=true):=by
      cases neg
      · exact form_pos hb
      · exact form_neg (by simpa using hz) hb
    have HB:=Lib.hid hb
    have hn':(neg=true∧d.size<s.size∧(d.toList==[48])=false)∨(neg=false∧¬d.size<s.size):=by
      cases neg
      · right;simpa using hn
      · left;refine ⟨rfl,by simpa using hn,by simpa using hz⟩
    clear hn hz hb
    by_cases hl:16<d.size
    · have HL:=Lib.hid (show 16<d.data.toList.length by rw [←size_list];exact hl)
      rcases hn' with ⟨rfl,hn',hz⟩|⟨rfl,hn'⟩
      all_goals
        go_enter Tryz.func87,Tryz.ntmps87
        go_wp2_with (first|(go_at_call 132;refine (trim_as _ d _ (by unfold maxLen;omega) hN).mono ?_;rintro e w' ⟨rfl,rfl⟩)|(go_at_call 133;refine (natural_as _ _ _ (by unfold maxLen;omega) HB).mono ?_;rintro e w' ⟨rfl,rfl⟩))
        go_ret2
        exact ⟨ret_long HF.out HL.out,rfl⟩
    · have HL:=Lib.hid (show ¬16<d.data.toList.length by rw [←size_list];exact hl)
      rcases hn' with ⟨rfl,hn',hz⟩|⟨rfl,hn'⟩
      all_goals
        go_enter Tryz.func87,Tryz.ntmps87
        go_wp2_with (first|(go_at_call 132;refine (trim_as _ d _ (by unfold maxLen;omega) hN).mono ?_;rintro e w' ⟨rfl,rfl⟩)|(go_at_call 133;refine (natural_as _ _ _ (by unfold maxLen;omega) HB).mono ?_;rintro e w' ⟨rfl,rfl⟩))
        go_loop [6,7,31] (fun n p i=>∃(k:Nat) (n0 p0:Int),k≤d.size∧i= .int .i64 k∧n= .int .i64 n0∧p= .int .i64 p0∧FromEnd d k n0 p0) (fun _ _ i=>d.size-(intOf i).toNat)
        case atStart=>exact ⟨0,_,_,by omega,rfl,rfl,rfl,FromEnd.first d⟩
        case round=>
          obtain ⟨k,n,p,hk,rfl,rfl,rfl,hI⟩:=hrel
          have H:=Lib.hid hI
          by_cases hlt:k<d.size
          · obtain ⟨b1,b2,b3,b4⟩:=hI.bound (by omega)
            clear hI
            obtain ⟨i,hi,hik⟩:∃i:Nat,∃hi:i<d.size,(d.size:Int)-1-k=i:=⟨d.size-1-k,by omega,by omega⟩
            obtain ⟨g1,g2⟩:=all_get HB.out i hi
            obtain ⟨m1,m2⟩:=digit_mul (d[i].toNat:Int) p g1 g2 (by omega)
            go_wp2
            go_round
            case rel=>exact ⟨k+1,_,_,by omega,by go_num,rfl,rfl,H.out.step hlt hi (by omega) g1 g2⟩
            case measure=>simp [intOf];omega
          · obtain rfl:k=d.size:=by omega
            obtain ⟨b1,b2⟩:=hI.bound16 (by omega)
            clear hI
            go_wp2_with (go_at_call 134;refine (within_any _ _).mono ?_;rintro e w' ⟨rfl,rfl⟩)
            go_ret2
            exact ⟨ret_val HF.out HL.out (by rw [H.out.last];rfl),rfl⟩
set_option maxHeartbeats 1000000 in
theorem read_as (s d:ByteArray) (neg:Bool) (w:World) (hs:s.size≤maxLen) (hds:d.size≤s.size) (hN:Hid (d=trimS s)) (hn:(neg=true∧d.size<s.size)∨(neg=false∧¬d.size<s.size)):Calls Tryz.prog 87 #[.string s] w fun e w'=>e= .returned (.tuple #[.int .i64 (readV neg d.data.toList),.int .i64 (readE neg d.data.toList)])∧w=w':=by
  unfold maxLen at hs
  cases hb:natL d.data.toList
  · have hf:=form_nat (neg:=neg) hb
    have HB:=Lib.hid hb
    have HF:=Lib.hid hf
    clear hb hf
    rcases hn with ⟨rfl,hn⟩|⟨rfl,hn⟩
    all_goals
      go_enter Tryz.func87,Tryz.ntmps87
      go_wp2_with (first|(go_at_call 132;refine (trim_as _ d _ (by unfold maxLen;omega) hN).mono ?_;rintro e w' ⟨rfl,rfl⟩)|(go_at_call 133;refine (natural_as _ _ _ (by unfold maxLen;omega) HB).mono ?_;rintro e w' ⟨rfl,rfl⟩))
      go_ret2
      exact ⟨ret_form HF.out,rfl⟩
  · exact read_nat s d neg w hs hds hN hn hb
theorem read_any (s:ByteArray) (w:World) (hs:s.size≤maxLen):Calls Tryz.prog 87 #[.string s] w fun e w'=>e= .returned (.tuple #[.int .i64 (readV (negS s) (trimS s).data.toList),.int .i64 (readE (negS s) (trimS s).data.toList)])∧w=w':=by
  cases hn:negS s
  · exact read_as s (trimS s) false w hs (by rw [trim_pos hn];exact Nat.le_refl _) rfl (.inr ⟨rfl,by rw [trim_pos hn];exact Nat.lt_irrefl _⟩)
  · have h1:=trim_size_neg hn
    have h2:=neg_size hn
    exact read_as s (trimS s) true w hs (by omega) rfl (.inl ⟨rfl,by omega⟩)
end Go.Proofs.YtkfihhagcimcmaaGreatDoor.Nu
namespace Go.Proofs.YtkfihhagcimcmaaGreatDoor.Lx
def bs (l:List UInt8):ByteArray:=⟨l.toArray⟩
theorem bs_list (l:List UInt8):(bs l).toList=l:=by rw [Lib.toList_data];simp [bs]
theorem bs_size (l:List UInt8):(bs l).size=l.length:=by rw [Nm.size_list,bs_list]
theorem bs_ext {a b:ByteArray} (h:a.toList=b.toList):a=b:=by
  rw [Lib.toList_data,Lib.toList_data] at h
  cases a;cases b;simp at h;rw [h]
theorem bs_of (s:ByteArray):bs s.toList=s:=bs_ext (bs_list _)
theorem ext_drop (s:ByteArray) (k:Nat):(s.extract k s.size).toList=s.toList.drop k:=by
  rw [Lib.extract_toList,Lib.toList_data,List.take_of_length_le (by simp)]
theorem ext_take (s:ByteArray) (a b:Nat):(s.extract a b).toList=(s.toList.drop a).take (b-a):=by
  rw [Lib.extract_toList,Lib.toList_data]
theorem ext_front (s:ByteArray) (k:Nat):s.extract 0 k=bs (s.toList.take k):=bs_ext (by rw [ext_take,bs_list];simp)
theorem drop_at (s:ByteArray) (k:Nat) (h:k<s.size):s.toList.drop k=s[k]::s.toList.drop (k+1):=by
  rw [List.drop_eq_getElem_cons (by rw [←Nm.size_list];exact h),←Nm.get_list s k h]
theorem drop_end (s:ByteArray) (k:Nat) (h:¬k<s.size):s.toList.drop k=[]:=List.drop_eq_nil_of_le (by rw [←Nm.size_list];omega)
theorem drop_len (s:ByteArray) (k:Nat):(s.toList.drop k).length=s.size-k:=by rw [List.length_drop,←Nm.size_list]
def dgB (c:UInt8):Bool:=decide (48≤(c.toNat:Int)∧(c.toNat:Int)≤57)
def lwB (c:UInt8):Bool:=decide (97≤(c.toNat:Int)∧(c.toNat:Int)≤122)
def nmB (c:UInt8):Bool:=decide ((97≤(c.toNat:Int)∧(c.toNat:Int)≤122)∨(48≤(c.toNat:Int)∧(c.toNat:Int)≤57)∨(c.toNat:Int)=95)
def rmB (c:UInt8):Bool:=decide (¬(c.toNat:Int)=10)
def blB (c:UInt8):Bool:=decide ((c.toNat:Int)=32∨(c.toNat:Int)=9∨(c.toNat:Int)=10∨(c.toNat:Int)=13)
def plB (c:UInt8):Bool:=decide (32≤(c.toNat:Int)∧(c.toNat:Int)≤126)
def rowN (p:UInt8→Bool):List UInt8→Nat
  |[]=>0
  |c::l=>if p c=true then rowN p l+1 else 0
theorem rowN_yes {p:UInt8→Bool} {c:UInt8} {l:List UInt8} (h:p c=true):rowN p (c::l)=rowN p l+1:=if_pos h
theorem rowN_no {p:UInt8→Bool} {c:UInt8} {l:List UInt8} (h:p c=false):rowN p (c::l)=0:=if_neg (by rw [h];decide)
theorem rowN_le (p:UInt8→Bool):∀l,rowN p l≤l.length
  |[]=>Nat.le_refl _
  |c::l=>by
    cases h:p c
    · rw [rowN_no h];omega
    · rw [rowN_yes h,List.length_cons];have:=rowN_le p l;omega
def skN:Bool→List UInt8→Nat
  |_,[]=>0
  |r,c::l=>if (c.toNat:Int)=35∨(r=true∧¬(c.toNat:Int)=10) then skN true l+1 else if blB c=true then skN false l+1 else 0
theorem skN_rem {r:Bool} {c:UInt8} {l:List UInt8} (h:(c.toNat:Int)=35∨(r=true∧¬(c.toNat:Int)=10)):skN r (c::l)=skN true l+1:=by rw [skN,if_pos h]
theorem skN_bl {r:Bool} {c:UInt8} {l:List UInt8} (h:¬((c.toNat:Int)=35∨(r=true∧¬(c.toNat:Int)=10))) (h2:blB c=true):skN r (c::l)=skN false l+1:=by rw [skN,if_neg h,if_pos h2]
theorem skN_no {r:Bool} {c:UInt8} {l:List UInt8} (h:¬((c.toNat:Int)=35∨(r=true∧¬(c.toNat:Int)=10))) (h2:blB c=false):skN r (c::l)=0:=by rw [skN,if_neg h,if_neg (by rw [h2];decide)]
theorem bl10 {c:UInt8} (h:(c.toNat:Int)=10):blB c=true:=decide_eq_true (.inr (.inr (.inl h)))
theorem skN_le:∀(r:Bool) (l:List UInt8),skN r l≤l.length
  |_,[]=>Nat.le_refl _
  |r,c::l=>by
    rw [skN,List.length_cons]
    have h1:=skN_le true l
    have h2:=skN_le false l
    split
    · omega
    · split<;>omega
theorem sk_row:∀l:List UInt8,skN true l=rowN rmB l+skN false (l.drop (rowN rmB l))
  |[]=>rfl
  |c::l=>by
    by_cases h:(c.toNat:Int)=10
    · have e:rmB c=false:=decide_eq_false (fun q=>q h)
      rw [rowN_no e,List.drop_zero,skN_bl (by rintro (q|⟨_,q⟩)<;>omega) (bl10 h),skN_bl (by rintro (q|⟨q,_⟩);omega;exact absurd q (by decide)) (bl10 h)]
      omega
    · rw [skN_rem (.inr ⟨rfl,h⟩),rowN_yes (decide_eq_true h),List.drop_succ_cons,sk_row l];omega
theorem sk_hash {c:UInt8} {l:List UInt8} (h:(c.toNat:Int)=35):skN false (c::l)=rowN rmB (c::l)+skN false ((c::l).drop (rowN rmB (c::l))):=by
  rw [skN_rem (.inl h),rowN_yes (decide_eq_true (by omega)),List.drop_succ_cons,sk_row l];omega
def sixV (c:UInt8):Int:=if dgB c=true then (c.toNat:Int)-48 else if 97≤(c.toNat:Int)∧(c.toNat:Int)≤102 then (c.toNat:Int)-87 else-1
theorem sixV_lo (c:UInt8): -1≤sixV c∧sixV c≤15:=by
  unfold sixV
  split
  · have:=of_decide_eq_true ‹dgB c=true›;omega
  · split<;>omega
def hexL:List UInt8→Int×Nat
  |a::b::_=>if 0≤sixV a∧0≤sixV b then (16*sixV a+sixV b,4) else (0,0)
  |_=>(0,0)
def escL:List UInt8→Int×Nat
  |[]=>(0,0)
  |d::l=>if (d.toNat:Int)=34∨(d.toNat:Int)=92 then ((d.toNat:Int),2) else if (d.toNat:Int)=110 then (10,2) else if (d.toNat:Int)=120 then hexL l else (0,0)
def partL:List UInt8→Int×Nat
  |[]=>(0,0)
  |c::l=>if (c.toNat:Int)=34∨plB c=false then (0,0) else if ¬(c.toNat:Int)=92 then ((c.toNat:Int),1) else escL l
theorem byte_nb (c:UInt8):0≤(c.toNat:Int)∧(c.toNat:Int)≤255:=by have:=c.toNat_lt;omega
theorem hexL_ok (l:List UInt8):(hexL l).2≤l.length+2∧0≤(hexL l).1∧(hexL l).1≤255:=by
  match l with
  |[]=>exact ⟨Nat.zero_le _,Int.le_refl _,by decide⟩
  |[c]=>exact ⟨Nat.zero_le _,Int.le_refl _,by show (0:Int)≤255;decide⟩
  |a::b::l=>
    have:=sixV_lo a;have:=sixV_lo b
    by_cases h:0≤sixV a∧0≤sixV b
    · rw [show hexL (a::b::l)=(16*sixV a+sixV b,4) from if_pos h];simp only [List.length_cons];omega
    · rw [show hexL (a::b::l)=(0,0) from if_neg h];exact ⟨Nat.zero_le _,Int.le_refl _,by show (0:Int)≤255;decide⟩
theorem escL_ok (l:List UInt8):(escL l).2≤l.length+1∧0≤(escL l).1∧(escL l).1≤255:=by
  match l with
  |[]=>exact ⟨Nat.zero_le _,Int.le_refl _,by decide⟩
  |d::l=>
    have:=byte_nb d
    have:=hexL_ok l
    unfold escL
    simp only [List.length_cons]
    split
    · dsimp only;omega
    · split
      · dsimp only;omega
      · split
        · omega
        · exact ⟨Nat.zero_le _,Int.le_refl _,by show (0:Int)≤255;decide⟩
theorem partL_ok (l:List UInt8):(partL l).2≤l.length∧0≤(partL l).1∧(partL l).1≤255:=by
  match l with
  |[]=>exact ⟨Nat.zero_le _,Int.le_refl _,by decide⟩
  |d::l=>
    have:=byte_nb d
    have:=escL_ok l
    unfold partL
    simp only [List.length_cons]
    split
    · exact ⟨Nat.zero_le _,Int.le_refl _,by show (0:Int)≤255;decide⟩
    · split
      · dsimp only;omega
      · omega
def txF:Nat→List UInt8→List UInt8→Nat→Option (List UInt8×Nat)
  |0,_,_,_=>none
  |n+1,l,acc,k=>
    match l with
    |[]=>none
    |c::l'=>if (c.toNat:Int)=34 then some (acc,k) else if (partL (c::l')).2=0 then none else txF n ((c::l').drop (partL (c::l')).2) (acc++[UInt8.ofNat (partL (c::l')).1.toNat]) (k+(partL (c::l')).2)
theorem txF_nil (n:Nat) (acc:List UInt8) (k:Nat):txF n [] acc k=none:=by cases n<;>rfl
theorem txF_quote {n:Nat} {c:UInt8} {l acc:List UInt8} {k:Nat} (hn:0<n) (h:(c.toNat:Int)=34):txF n (c::l) acc k=some (acc,k):=by
  cases n
  · omega
  · show (if (c.toNat:Int)=34 then _ else _)=_;rw [if_pos h]
theorem txF_bad {n:Nat} {c:UInt8} {l acc:List UInt8} {k:Nat} (h:¬(c.toNat:Int)=34) (h2:(partL (c::l)).2=0):txF n (c::l) acc k=none:=by
  cases n
  · rfl
  · show (if (c.toNat:Int)=34 then _ else _)=_;rw [if_neg h,if_pos h2]
theorem txF_step {n:Nat} {c:UInt8} {l acc:List UInt8} {k:Nat} (h:¬(c.toNat:Int)=34) (h2:¬(partL (c::l)).2=0):txF (n+1) (c::l) acc k=txF n ((c::l).drop (partL (c::l)).2) (acc++[UInt8.ofNat (partL (c::l)).1.toNat]) (k+(partL (c::l)).2):=by
  show (if (c.toNat:Int)=34 then _ else _)=_;rw [if_neg h,if_neg h2]
structure Tk where
  k:Int
  n:Int
  t:List UInt8
def signsL:List (List UInt8):=[[46,46,46],[62,61],[60,61],[58],[59],[123],[125],[40],[41],[38],[124],[43],[45],[42],[46]]
def signL (l:List UInt8):List UInt8:=(signsL.find? fun w=>w.isPrefixOf l).getD []
def numberL (l:List UInt8):Int×Tk×Nat:=
  let d:=l.take (rowN dgB l)
  (if Nu.readE false d=2 then 20 else Nu.readE false d,⟨1,Nu.readV false d,[]⟩,rowN dgB l)
def wordL (l:List UInt8):Int×Tk×Nat:=
  let d:=l.take (rowN nmB l)
  if (Nm.rightL d||decide (0<Nm.wordN d))=true then (0,⟨2,0,d⟩,rowN nmB l) else (20,⟨0,0,[]⟩,0)
def textL (l:List UInt8):Int×Tk×Nat:=
  match txF (l.length+1) (l.drop 1) [] 1 with
  |none=>(20,⟨0,0,[]⟩,0)
  |some (t,k)=>if 256<t.length then (4,⟨0,0,[]⟩,0) else (0,⟨3,0,t⟩,k+1)
def signR (l:List UInt8):Int×Tk×Nat:=if signL l=[] then (20,⟨0,0,[]⟩,0) else (0,⟨4,0,signL l⟩,(signL l).length)
def firstL (l:List UInt8):Int×Tk×Nat:=
  match l with
  |[]=>(20,⟨0,0,[]⟩,0)
  |c::_=>if dgB c=true then numberL l else if lwB c=true then wordL l else if (c.toNat:Int)=34 then textL l else signR l
structure Tok where
  x:Tk
  at_:Int
def tok0:Tok:=⟨⟨0,0,[]⟩,0⟩
def Tok.v (t:Tok):Value:= .agg #[.int .i64 t.x.k,.int .i64 t.x.n,.string (bs t.x.t),.int .i64 t.at_]
def nextL (L:List UInt8) (p:Nat):Int×Tok×Nat:=
  let q:=p+skN false (L.drop p)
  if q=L.length then (0,⟨⟨0,0,[]⟩,q⟩,q)
  else let r:=firstL (L.drop q)
    if r.1=0 then (0,⟨r.2.1,q⟩,q+r.2.2) else (r.1,tok0,q)
end Go.Proofs.YtkfihhagcimcmaaGreatDoor.Lx
namespace Go.Proofs.YtkfihhagcimcmaaGreatDoor.Lx
open Go.RowKit
open _root_.Go.Proofs.YtkfihhagcimcmaaGreatDoor.Nm (ret_bool ret_int)
set_option maxHeartbeats 400000 in
theorem isdigit_any (c:UInt8) (w:World):Calls Tryz.prog 198 #[.int .u8 (c.toNat:Int)] w fun e w'=>e= .returned (.bool (dgB c))∧w=w':=by
  by_cases h1:48≤(c.toNat:Int)<;>by_cases h2:(c.toNat:Int)≤57
  all_goals
    go_enter Tryz.func198,Tryz.ntmps198
    go_wp2
    go_ret
    exact ⟨ret_bool (by simp [dgB];omega),rfl⟩
set_option maxHeartbeats 400000 in
theorem rdigit_any (c:UInt8) (w:World):Calls Tryz.prog 122 #[.int .u8 (c.toNat:Int)] w fun e w'=>e= .returned (.bool (dgB c))∧w=w':=by
  by_cases h1:48≤(c.toNat:Int)<;>by_cases h2:(c.toNat:Int)≤57
  all_goals
    go_enter Tryz.func122,Tryz.ntmps122
    go_wp2
    go_ret
    exact ⟨ret_bool (by simp [dgB];omega),rfl⟩
set_option maxHeartbeats 400000 in
theorem isletter_any (c:UInt8) (w:World):Calls Tryz.prog 200 #[.int .u8 (c.toNat:Int)] w fun e w'=>e= .returned (.bool (lwB c))∧w=w':=by
  by_cases h1:97≤(c.toNat:Int)<;>by_cases h2:(c.toNat:Int)≤122
  all_goals
    go_enter Tryz.func200,Tryz.ntmps200
    go_wp2
    go_ret
    exact ⟨ret_bool (by simp [lwB];omega),rfl⟩
set_option maxHeartbeats 400000 in
theorem plain_any (c:UInt8) (w:World):Calls Tryz.prog 180 #[.int .u8 (c.toNat:Int)] w fun e w'=>e= .returned (.bool (plB c))∧w=w':=by
  by_cases h1:32≤(c.toNat:Int)<;>by_cases h2:(c.toNat:Int)≤126
  all_goals
    go_enter Tryz.func180,Tryz.ntmps180
    go_wp2
    go_ret
    exact ⟨ret_bool (by simp [plB];omega),rfl⟩
set_option maxHeartbeats 400000 in
theorem inremark_any (c:UInt8) (w:World):Calls Tryz.prog 197 #[.int .u8 (c.toNat:Int)] w fun e w'=>e= .returned (.bool (rmB c))∧w=w':=by
  cases h:((c.toNat:Int) !=10)
  all_goals
    have H:=Lib.hid h
    go_enter Tryz.func197,Tryz.ntmps197
    go_wp2
    go_ret
    refine ⟨ret_bool ?_,rfl⟩
    have h5:=H.out
    simp at h5
    unfold rmB
    first
      |exact (decide_eq_true (by omega)).symm
      |exact (decide_eq_false (by omega)).symm
theorem isletter_as (c:UInt8) (b:Bool) (w:World) (h:Hid (lwB c=b)):Calls Tryz.prog 200 #[.int .u8 (c.toNat:Int)] w fun e w'=>e= .returned (.bool b)∧w=w':=by rw [←h.out];exact isletter_any c w
theorem isdigit_as (c:UInt8) (b:Bool) (w:World) (h:Hid (dgB c=b)):Calls Tryz.prog 198 #[.int .u8 (c.toNat:Int)] w fun e w'=>e= .returned (.bool b)∧w=w':=by rw [←h.out];exact isdigit_any c w
theorem rdigit_as (c:UInt8) (b:Bool) (w:World) (h:Hid (dgB c=b)):Calls Tryz.prog 122 #[.int .u8 (c.toNat:Int)] w fun e w'=>e= .returned (.bool b)∧w=w':=by rw [←h.out];exact rdigit_any c w
theorem nmB_cases (c:UInt8):nmB c=(lwB c||(dgB c||decide ((c.toNat:Int)=95))):=by
  unfold nmB lwB dgB
  rw [Bool.eq_iff_iff]
  simp
set_option maxHeartbeats 400000 in
theorem inname_any (c:UInt8) (w:World):Calls Tryz.prog 218 #[.int .u8 (c.toNat:Int)] w fun e w'=>e= .returned (.bool (nmB c))∧w=w':=by
  have HN:=Lib.hid (nmB_cases c)
  cases h1:lwB c<;>cases h2:dgB c<;>cases h3:((c.toNat:Int)==95)
  all_goals
    have H1:=Lib.hid h1
    have H2:=Lib.hid h2
    have H3:=Lib.hid h3
    clear h1 h2
    go_enter Tryz.func218,Tryz.ntmps218
    go_wp2_with (first|(go_at_call 200;refine (isletter_as _ _ _ H1).mono ?_;rintro e w' ⟨rfl,rfl⟩)|(go_at_call 198;refine (isdigit_as _ _ _ H2).mono ?_;rintro e w' ⟨rfl,rfl⟩))
    go_ret
    refine ⟨ret_bool ?_,rfl⟩
    rw [HN.out,H1.out,H2.out]
    have h5:=H3.out
    simp at h5
    simp [h5]
set_option maxHeartbeats 400000 in
theorem rletter_any (c:UInt8) (w:World):Calls Tryz.prog 123 #[.int .u8 (c.toNat:Int)] w fun e w'=>e= .returned (.bool (nmB c))∧w=w':=by
  by_cases h0:97≤(c.toNat:Int)<;>by_cases h1:(c.toNat:Int)≤122<;>cases h2:dgB c<;>cases h3:((c.toNat:Int)==95)
  all_goals
    have H2:=Lib.hid h2
    have H3:=Lib.hid h3
    clear h2
    go_enter Tryz.func123,Tryz.ntmps123
    go_wp2_with (go_at_call 122;refine (rdigit_as _ _ _ H2).mono ?_;rintro e w' ⟨rfl,rfl⟩)
    go_ret
    refine ⟨ret_bool ?_,rfl⟩
    rw [nmB_cases,H2.out]
    have h5:=H3.out
    simp at h5
    simp [h5,lwB];try omega
theorem rowN_eq {p:UInt8→Bool} {s:ByteArray} {k:Nat} (hk:k<s.size) (h:p s[k]=true) (he:k+rowN p (s.toList.drop k)=rowN p s.toList):k+1+rowN p (s.toList.drop (k+1))=rowN p s.toList:=by
  rw [drop_at s k hk,rowN_yes h] at he;omega
theorem rowN_stop {p:UInt8→Bool} {s:ByteArray} {k:Nat} (hk:k<s.size) (h:p s[k]=false) (he:k+rowN p (s.toList.drop k)=rowN p s.toList):(k:Int)=rowN p s.toList:=by
  rw [drop_at s k hk,rowN_no h] at he;omega
theorem rowN_end {p:UInt8→Bool} {s:ByteArray} {k:Nat} (hk:¬k<s.size) (hk2:k≤s.size) (he:k+rowN p (s.toList.drop k)=rowN p s.toList):(s.size:Int)=rowN p s.toList:=by
  rw [drop_end s k hk] at he;simp only [rowN] at he;omega
set_option maxHeartbeats 1000000 in
theorem row_any (g:Nat) (p:UInt8→Bool) (eg:∀args w,(callFunc g args).run Tryz.prog w= .ok (.enter g args) w) (ask:∀(c:UInt8) (w:World),Calls Tryz.prog g #[.int .u8 (c.toNat:Int)] w fun e w'=>e= .returned (.bool (p c))∧w=w')
    (s:ByteArray) (w:World) (hs:s.size≤140737488355328):Calls Tryz.prog 196 #[.string s,.func (.func g) #[] #[]] w fun e w'=>e= .returned (.int .i64 (rowN p s.toList:Nat))∧w=w':=by
  have HA:=Lib.hid ask
  clear ask
  go_enter Tryz.func196,Tryz.ntmps196
  go_wp2
  go_loop [5,8] (fun _ i=>∃k:Nat,k≤s.size∧i= .int .i64 k∧Hid (k+rowN p (s.toList.drop k)=rowN p s.toList)) (fun _ i=>s.size-(intOf i).toNat)
  case atStart=>exact ⟨0,by omega,rfl,by rw [List.drop_zero,Nat.zero_add];exact rfl⟩
  case round=>
    obtain ⟨k,hk,rfl,hR⟩:=hrel
    by_cases hlt:k<s.size
    · have HC:Hid (∀w,Calls Tryz.prog g #[.int .u8 (s[k].toNat:Int)] w fun e w'=>e= .returned (.bool (p s[k]))∧w=w'):=fun w=>HA.out s[k] w
      obtain ⟨q,hq⟩:∃q,p s[k]=q:=⟨_,rfl⟩
      rw [hq] at HC
      have HQ:=Lib.hid hq
      clear hq
      cases q
      · go_wp2_with (go_at_fn g;refine (HC.out _).mono ?_;rintro e w' ⟨rfl,rfl⟩)
        go_ret
        exact ⟨ret_int (rowN_stop hlt HQ.out hR.out),rfl⟩
      · go_wp2_with (go_at_fn g;refine (HC.out _).mono ?_;rintro e w' ⟨rfl,rfl⟩)
        go_round
        case rel=>exact ⟨k+1,by omega,by go_num,rowN_eq hlt HQ.out hR.out⟩
        case measure=>simp [intOf];omega
    · go_wp2
      go_ret
      exact ⟨ret_int (rowN_end hlt hk hR.out),rfl⟩
theorem row_remark (s:ByteArray) (w:World) (hs:s.size≤140737488355328):Calls Tryz.prog 196 #[.string s,.func (.func 197) #[] #[]] w fun e w'=>e= .returned (.int .i64 (rowN rmB s.toList:Nat))∧w=w':=
  row_any 197 rmB (fun _ _=>by kernel_rfl) inremark_any s w hs
theorem row_digit (s:ByteArray) (w:World) (hs:s.size≤140737488355328):Calls Tryz.prog 196 #[.string s,.func (.func 198) #[] #[]] w fun e w'=>e= .returned (.int .i64 (rowN dgB s.toList:Nat))∧w=w':=
  row_any 198 dgB (fun _ _=>by kernel_rfl) isdigit_any s w hs
theorem row_name (s:ByteArray) (w:World) (hs:s.size≤140737488355328):Calls Tryz.prog 196 #[.string s,.func (.func 218) #[] #[]] w fun e w'=>e= .returned (.int .i64 (rowN nmB s.toList:Nat))∧w=w':=
  row_any 218 nmB (fun _ _=>by kernel_rfl) inname_any s w hs
end Go.Proofs.YtkfihhagcimcmaaGreatDoor.Lx
namespace Go.Proofs.YtkfihhagcimcmaaGreatDoor.Lx
open Go.RowKit
open _root_.Go.Proofs.YtkfihhagcimcmaaGreatDoor.Nm (ret_int)
def SkAt (s:ByteArray) (r:Bool) (k n:Nat):Prop:=k+skN r (s.toList.drop k)=n
theorem SkAt.step {s:ByteArray} {r:Bool} {k n:Nat} (h:SkAt s r k n) (hk:k<s.size) (hn:¬((s[k].toNat:Int)=35∨(r=true∧¬(s[k].toNat:Int)=10))) (hb:(s[k].toNat:Int)=32∨(s[k].toNat:Int)=9∨(s[k].toNat:Int)=10∨(s[k].toNat:Int)=13):SkAt s false (k+1) n:=by
  unfold SkAt at h⊢
  rw [drop_at s k hk,skN_bl hn (decide_eq_true hb)] at h;omega
theorem SkAt.rem {s:ByteArray} {r:Bool} {k n:Nat} (h:SkAt s r k n) (hk:k<s.size) (hn:(s[k].toNat:Int)=35∨(r=true∧¬(s[k].toNat:Int)=10)):SkAt s true (k+1) n:=by
  unfold SkAt at h⊢
  rw [drop_at s k hk,skN_rem hn] at h;omega
theorem SkAt.stop {s:ByteArray} {r:Bool} {k n:Nat} (h:SkAt s r k n) (hk:k<s.size) (hn:¬((s[k].toNat:Int)=35∨(r=true∧¬(s[k].toNat:Int)=10))) (hb:¬((s[k].toNat:Int)=32∨(s[k].toNat:Int)=9∨(s[k].toNat:Int)=10∨(s[k].toNat:Int)=13)):(k:Int)=n:=by
  unfold SkAt at h
  rw [drop_at s k hk,skN_no hn (decide_eq_false hb)] at h;omega
theorem SkAt.last {s:ByteArray} {r:Bool} {k n:Nat} (h:SkAt s r k n) (hk:¬k<s.size):(k:Int)=n:=by
  unfold SkAt at h
  rw [drop_end s k hk] at h;cases r<;>simp only [skN] at h<;>omega
theorem SkAt.hash {s:ByteArray} {k n m:Nat} (h:SkAt s false k n) (hk:k<s.size) (hh:(s[k].toNat:Int)=35) (hm:m=rowN rmB (s.toList.drop k)):SkAt s false (k+m) n:=by
  unfold SkAt at h⊢
  subst hm
  rw [drop_at s k hk,sk_hash hh,←drop_at s k hk,List.drop_drop] at h
  rw [show k+rowN rmB (s.toList.drop k)=k+rowN rmB (s.toList.drop k) from rfl];omega
theorem hash_pos {s:ByteArray} {k m:Nat} (hk:k<s.size) (hh:(s[k].toNat:Int)=35) (hm:m=rowN rmB (s.toList.drop k)):0<m∧k+m≤s.size:=by
  subst hm
  have h1:=rowN_le rmB (s.toList.drop k)
  rw [drop_len] at h1
  rw [drop_at s k hk,rowN_yes (decide_eq_true (by omega))] at h1⊢
  omega
theorem row_remark_at (s:ByteArray) (k m:Nat) (w:World) (hs:s.size≤140737488355328) (hm:Hid (m=rowN rmB (s.toList.drop k))):Calls Tryz.prog 196 #[.string (s.extract k s.size),.func (.func 197) #[] #[]] w fun e w'=>e= .returned (.int .i64 (m:Nat))∧w=w':=by
  rw [hm.out,←ext_drop]
  exact row_remark _ w (by simp;omega)
theorem byte_sep (c:Int):(c=32∨c=9∨c=10∨c=13)∨(c=35)∨((c==32)=false∧(c==9)=false∧(c==10)=false∧(c==13)=false∧(c==35)=false):=by
  simp;omega
set_option maxHeartbeats 2000000 in
theorem skip_any (s:ByteArray) (p n:Nat) (w:World) (hs:s.size≤140737488355328) (hp:p≤s.size) (hn:SkAt s false p n):Calls Tryz.prog 162 #[.string s,.int .i64 (p:Int)] w fun e w'=>e= .returned (.int .i64 (n:Int))∧w=w':=by
  have HN:=Lib.hid hn
  clear hn
  go_enter Tryz.func162,Tryz.ntmps162
  go_wp2
  go_step3
  go_wp2
  go_step3
  go_wp2
  go_loop [1] (fun i=>∃k:Nat,k≤s.size∧i= .int .i64 k∧Hid (SkAt s false k n)) (fun i=>s.size-(intOf i).toNat)
  case atStart=>exact ⟨p,hp,rfl,HN⟩
  case round=>
    obtain ⟨k,hk,rfl,hR⟩:=hrel
    by_cases hlt:k<s.size
    · obtain ⟨c,hc⟩:∃c:Int,(s[k].toNat:Int)=c:=⟨_,rfl⟩
      have HC:=Lib.hid hc
      rcases byte_sep c with h|h|⟨h1,h2,h3,h4,h5⟩
      · have HS:=Lib.hid (hR.out.step hlt (by rw [hc];simp;omega) (by rw [hc];exact h))
        rcases h with rfl|rfl|rfl|rfl
        all_goals
          go_wp2_with fail
          go_round
          case rel=>exact ⟨k+1,by omega,by go_num,HS⟩
          case measure=>simp [intOf];omega
      · subst h
        obtain ⟨m,hm⟩:∃m,m=rowN rmB (s.toList.drop k):=⟨_,rfl⟩
        have HM:=Lib.hid hm
        have HS:=Lib.hid (hR.out.hash hlt hc hm)
        obtain ⟨m1,m2⟩:=hash_pos hlt hc hm
        clear hm
        go_wp2_with (go_at_call 196;refine (row_remark_at s k m _ hs HM).mono ?_;rintro e w' ⟨rfl,rfl⟩)
        go_round
        case rel=>exact ⟨k+m,by omega,by go_num,HS⟩
        case measure=>simp [intOf];omega
      · have HS:=Lib.hid (hR.out.stop hlt (by rw [hc];simp at h5;simp [h5]) (by rw [hc];simp at h1 h2 h3 h4;omega))
        go_wp2_with fail
        try rw [Exit.noGoto_ret]
        go_ret
        exact ⟨ret_int HS.out,rfl⟩
    · go_wp2_with fail
      try rw [Exit.noGoto_ret]
      go_ret
      exact ⟨ret_int (hR.out.last hlt),rfl⟩
end Go.Proofs.YtkfihhagcimcmaaGreatDoor.Lx
namespace Go.Proofs.YtkfihhagcimcmaaGreatDoor.Lx
open Go.RowKit
open _root_.Go.Proofs.YtkfihhagcimcmaaGreatDoor.Nm (ret_int)
theorem byte_ne (c:Int):(c=32∨c=9∨c=10∨c=13)∨(c=35)∨((c !=32)=true∧(c !=9)=true∧(c !=10)=true∧(c !=13)=true∧(c==35)=false∧(c==10)=false):=by
  simp;omega
set_option maxHeartbeats 2000000 in
theorem rskip_any (s:ByteArray) (p n:Nat) (w:World) (hs:s.size≤140737488355328) (hp:p≤s.size) (hn:SkAt s false p n):Calls Tryz.prog 120 #[.string s,.int .i64 (p:Int)] w fun e w'=>e= .returned (.int .i64 (n:Int))∧w=w':=by
  have HN:=Lib.hid hn
  clear hn
  go_enter Tryz.func120,Tryz.ntmps120
  go_wp2
  go_loop [1,5] (fun i r=>∃(k:Nat) (b:Bool),k≤s.size∧i= .int .i64 k∧r= .bool b∧Hid (SkAt s b k n)) (fun i _=>s.size-(intOf i).toNat)
  case atStart=>exact ⟨p,false,hp,rfl,rfl,HN⟩
  case round=>
    obtain ⟨k,b,hk,rfl,rfl,hR⟩:=hrel
    by_cases hlt:k<s.size
    · obtain ⟨c,hc⟩:∃c:Int,(s[k].toNat:Int)=c:=⟨_,rfl⟩
      have HC:=Lib.hid hc
      cases b
      · rcases byte_ne c with h|h|⟨h1,h2,h3,h4,h5,h6⟩
        · have HS:=Lib.hid (hR.out.step hlt (by rw [hc];simp;omega) (by rw [hc];exact h))
          rcases h with rfl|rfl|rfl|rfl
          all_goals
            go_wp2_with fail
            go_round
            case rel=>exact ⟨k+1,false,by omega,by go_num,rfl,HS⟩
            case measure=>simp [intOf];omega
        · subst h
          have HS:=Lib.hid (hR.out.rem hlt (.inl hc))
          go_wp2_with fail
          go_round
          case rel=>exact ⟨k+1,true,by omega,by go_num,rfl,HS⟩
          case measure=>simp [intOf];omega
        · have HS:=Lib.hid (hR.out.stop hlt (by rw [hc];simp at h5;simp [h5]) (by rw [hc];simp at h1 h2 h3 h4;omega))
          go_wp2_with fail
          go_ret
          exact ⟨ret_int HS.out,rfl⟩
      · cases h10:(c==10)
        · have hne:¬c=10:=by simpa using h10
          have HS:=Lib.hid (hR.out.rem hlt (.inr ⟨rfl,by rw [hc];exact hne⟩))
          clear hne
          cases h35:(c==35)
          all_goals
            go_wp2_with fail
            go_round
            case rel=>exact ⟨k+1,true,by omega,by go_num,rfl,HS⟩
            case measure=>simp [intOf];omega
        · obtain rfl:c=10:=by simpa using h10
          clear h10
          have HS:=Lib.hid (hR.out.step hlt (by rw [hc];simp) (by rw [hc];decide))
          go_wp2_with fail
          go_round
          case rel=>exact ⟨k+1,false,by omega,by go_num,rfl,HS⟩
          case measure=>simp [intOf];omega
    · go_wp2_with fail
      go_ret
      exact ⟨ret_int (hR.out.last hlt),rfl⟩
set_option maxHeartbeats 400000 in
theorem six_any (c:UInt8) (w:World):Calls Tryz.prog 182 #[.int .u8 (c.toNat:Int)] w fun e w'=>e= .returned (.int .i64 (sixV c))∧w=w':=by
  have hb:=byte_nb c
  obtain ⟨v,hv⟩:∃v,sixV c=v:=⟨_,rfl⟩
  rw [hv]
  have HV:=Lib.hid hv
  clear hv
  cases hd:dgB c
  · have HD:=Lib.hid hd
    clear hd
    have hc3:(c.toNat:Int)<97∨(97≤(c.toNat:Int)∧(c.toNat:Int)≤102)∨(97≤(c.toNat:Int)∧102<(c.toNat:Int)):=by omega
    rcases hc3 with h1|⟨h1,h2⟩|⟨h1,h2⟩
    all_goals
      go_enter Tryz.func182,Tryz.ntmps182
      go_wp2_with (go_at_call 122;refine (rdigit_as _ _ _ HD).mono ?_;rintro e w' ⟨rfl,rfl⟩)
      go_ret
      refine ⟨ret_int ?_,rfl⟩
      rw [←HV.out]
      unfold sixV
      rw [HD.out,if_neg (by decide)]
      first
        |exact (if_pos (by omega)).symm
        |exact (if_neg (by omega)).symm
        |exact if_pos (by omega)
        |exact if_neg (by omega)
  · have HD:=Lib.hid hd
    have hdd:=of_decide_eq_true hd
    clear hd
    obtain ⟨h1,h2⟩:=hdd
    go_enter Tryz.func182,Tryz.ntmps182
    go_wp2_with (go_at_call 122;refine (rdigit_as _ _ _ HD).mono ?_;rintro e w' ⟨rfl,rfl⟩)
    go_ret
    refine ⟨ret_int ?_,rfl⟩
    rw [←HV.out]
    unfold sixV
    rw [HD.out,if_pos rfl]
end Go.Proofs.YtkfihhagcimcmaaGreatDoor.Lx
namespace Go.Proofs.YtkfihhagcimcmaaGreatDoor.Lx
open Go.RowKit
def PartP (r:Int×Nat) (w:World) (e:Ending) (w':World):Prop:=e= .returned (.tuple #[.int .u8 r.1,.int .i64 (r.2:Int)])∧∃q,w'=w.drewN q
theorem PartP.mk {r:Int×Nat} {v n:Int} {w w':World} (h:r=(v,n.toNat)) (h0:0≤n) (hw:∃q,w'=w.drewN q):PartP r w (.returned (.tuple #[.int .u8 v,.int .i64 n])) w':=by
  subst h;refine ⟨?_,hw⟩;dsimp only;rw [Int.toNat_of_nonneg h0]
theorem partL_cons (c:UInt8) (l:List UInt8):partL (c::l)=if (c.toNat:Int)=34∨plB c=false then (0,0) else if ¬(c.toNat:Int)=92 then ((c.toNat:Int),1) else escL l:=rfl
theorem escL_cons (d:UInt8) (l:List UInt8):escL (d::l)=if (d.toNat:Int)=34∨(d.toNat:Int)=92 then ((d.toNat:Int),2) else if (d.toNat:Int)=110 then (10,2) else if (d.toNat:Int)=120 then hexL l else (0,0):=rfl
theorem partL_no {c:UInt8} {l:List UInt8} (h:(c.toNat:Int)<32∨126<(c.toNat:Int)∨(c.toNat:Int)=34):partL (c::l)=(0,0):=by
  rw [partL_cons,if_pos]
  by_cases h4:(c.toNat:Int)=34
  · exact .inl h4
  · exact .inr (decide_eq_false (by omega))
theorem partL_one {c:UInt8} {l:List UInt8} (h1:32≤(c.toNat:Int)) (h2:(c.toNat:Int)≤126) (h3:¬(c.toNat:Int)=34) (h4:¬(c.toNat:Int)=92):partL (c::l)=((c.toNat:Int),1):=by
  rw [partL_cons,if_neg,if_pos h4]
  rintro (h|h)
  · exact h3 h
  · have:=of_decide_eq_false h;omega
theorem partL_esc {c:UInt8} {l:List UInt8} (h4:(c.toNat:Int)=92):partL (c::l)=escL l:=by
  rw [partL_cons,if_neg,if_neg (by omega)]
  rintro (h|h)
  · omega
  · have:=of_decide_eq_false h;omega
theorem escL_self {d:UInt8} {l:List UInt8} (h:(d.toNat:Int)=34∨(d.toNat:Int)=92):escL (d::l)=((d.toNat:Int),2):=if_pos h
theorem escL_n {d:UInt8} {l:List UInt8} (h:(d.toNat:Int)=110):escL (d::l)=(10,2):=by rw [escL_cons,if_neg (by omega),if_pos h]
theorem escL_x {d:UInt8} {l:List UInt8} (h:(d.toNat:Int)=120):escL (d::l)=hexL l:=by rw [escL_cons,if_neg (by omega),if_neg (by omega),if_pos h]
theorem escL_no {d:UInt8} {l:List UInt8} (h:¬(d.toNat:Int)=34) (h2:¬(d.toNat:Int)=92) (h3:¬(d.toNat:Int)=110) (h4:¬(d.toNat:Int)=120):escL (d::l)=(0,0):=by rw [escL_cons,if_neg (by omega),if_neg (by omega),if_neg (by omega)]
theorem hexL_yes {a b:UInt8} {l:List UInt8} (h:0≤sixV a) (h2:0≤sixV b):hexL (a::b::l)=(16*sixV a+sixV b,4):=if_pos ⟨h,h2⟩
theorem hexL_no {a b:UInt8} {l:List UInt8} (h:¬(0≤sixV a∧0≤sixV b)):hexL (a::b::l)=(0,0):=if_neg h
theorem hexL_short {s:ByteArray} {k:Nat} (h:¬k+1<s.size):hexL (s.toList.drop k)=(0,0):=by
  have hl:=drop_len s k
  generalize s.toList.drop k=l at hl
  match l with
  |[]=>rfl
  |[_]=>rfl
  |_::_::_=>simp at hl;omega
theorem byte_part (c:Int):(c<32∨(32≤c∧126<c)∨((32≤c∧c≤126)∧c=34))∨((32≤c∧c≤126)∧(c==34)=false∧(c !=92)=true)∨c=92:=by
  simp;omega
theorem byte_esc (c:Int):c=34∨c=92∨c=110∨c=120∨((c==34)=false∧(c==92)=false∧(c==110)=false∧(c==120)=false):=by
  simp;omega
theorem six_same (c:UInt8) (w:World):Calls Tryz.prog 182 #[.int .u8 (c.toNat:Int)] w fun e w'=>e= .returned (.int .i64 (sixV c))∧w'=w:=(six_any c w).mono fun _ _ h=>⟨h.1,h.2.symm⟩
set_option maxHeartbeats 1600000 in
theorem rpart_any (s:ByteArray) (k:Nat) (w:World) (hs:s.size≤140737488355328) (hk:k<s.size):Calls Tryz.prog 153 #[.string s,.int .i64 (k:Int)] w (PartP (partL (s.toList.drop k)) w):=by
  rw [drop_at s k hk]
  obtain ⟨c,hc⟩:∃c:Int,(s[k].toNat:Int)=c:=⟨_,rfl⟩
  have HC:=Lib.hid hc
  rcases byte_part c with h|⟨⟨h1,h2⟩,h3,h4⟩|h
  · have HP:=Lib.hid (partL_no (l:=s.toList.drop (k+1)) (by rw [hc];omega))
    rcases h with h|⟨h1,h2⟩|⟨⟨h1,h2⟩,rfl⟩
    all_goals
      go_enter Tryz.func153,Tryz.ntmps153
      go_wp2_with fail
      go_ret2
      exact PartP.mk HP.out (by decide) ⟨0,rfl⟩
  · have HP:=Lib.hid (partL_one (l:=s.toList.drop (k+1)) (by rw [hc];exact h1) (by rw [hc];exact h2) (by rw [hc];simpa using h3) (by rw [hc];simpa using h4))
    rw [hc] at HP
    go_enter Tryz.func153,Tryz.ntmps153
    go_wp2_with fail
    go_ret2
    exact PartP.mk HP.out (by decide) ⟨0,rfl⟩
  · subst h
    rw [partL_esc hc]
    by_cases hk1:k+1<s.size
    · rw [drop_at s (k+1) hk1]
      obtain ⟨d,hd⟩:∃d:Int,(s[k+1].toNat:Int)=d:=⟨_,rfl⟩
      have HD:=Lib.hid hd
      rcases byte_esc d with rfl|rfl|rfl|rfl|⟨h1,h2,h3,h4⟩
      · have HP:=Lib.hid (escL_self (l:=s.toList.drop (k+1+1)) (.inl hd))
        rw [hd] at HP
        go_enter Tryz.func153,Tryz.ntmps153
        go_wp2_with fail
        go_ret2
        exact PartP.mk HP.out (by decide) ⟨0,rfl⟩
      · have HP:=Lib.hid (escL_self (l:=s.toList.drop (k+1+1)) (.inr hd))
        rw [hd] at HP
        go_enter Tryz.func153,Tryz.ntmps153
        go_wp2_with fail
        go_ret2
        exact PartP.mk HP.out (by decide) ⟨0,rfl⟩
      · have HP:=Lib.hid (escL_n (l:=s.toList.drop (k+1+1)) hd)
        go_enter Tryz.func153,Tryz.ntmps153
        go_wp2_with fail
        go_ret2
        exact PartP.mk HP.out (by decide) ⟨0,rfl⟩
      · rw [escL_x hd]
        by_cases hk3:k+3<s.size
        · rw [drop_at s (k+1+1) (by omega),drop_at s (k+1+1+1) (by omega)]
          have hk2:k+2<s.size:=by omega
          have hxl:=sixV_lo s[k+2]
          have hyl:=sixV_lo s[k+3]
          obtain ⟨x1,x2⟩:=hxl
          obtain ⟨y1,y2⟩:=hyl
          have hpos:(0≤sixV s[k+2]∧0≤sixV s[k+3])∨sixV s[k+2]<0∨(0≤sixV s[k+2]∧sixV s[k+3]<0):=by omega
          rcases hpos with ⟨p1,p2⟩|p1|⟨p1,p2⟩
          · have HP:Hid (hexL (s[k+1+1]::s[k+1+1+1]::s.toList.drop (k+1+1+1+1))=(16*sixV s[k+2]+sixV s[k+3],4)):=hexL_yes p1 p2
            go_enter Tryz.func153,Tryz.ntmps153
            go_wp2_with (go_at_call 182;((with_reducible refine (six_any _ _).mono ?_);rintro e w' ⟨rfl,rfl⟩))
            have e1:=IntWalk.i64_in ((k:Int)+2) (by omega)
            have e2:=IntWalk.i64_in ((k:Int)+3) (by omega)
            have e3:=IntWalk.i64_in (16*sixV s[k+2]) (by omega)
            have e4:=IntWalk.i64_in (16*sixV s[k+2]+sixV s[k+3]) (by omega)
            have e5:=IntWalk.u8_in (16*sixV s[k+2]+sixV s[k+3]) (by omega)
            have e6:(0:Int)≤(k:Int)+2:=by omega
            have e7:(0:Int)≤(k:Int)+3:=by omega
            have e8:((k:Int)+2).toNat=k+2:=by omega
            have e9:((k:Int)+3).toNat=k+3:=by omega
            go_quiet ((go_at_call 182;with_reducible exact Calls.quiet_of_same (six_same _ _)))
            go_wp2_with fail
            go_ret2
            exact PartP.mk HP.out (by decide) ⟨_,rfl⟩
          · have HP:Hid (hexL (s[k+1+1]::s[k+1+1+1]::s.toList.drop (k+1+1+1+1))=(0,0)):=hexL_no (fun h=>by have:=h.1;have e:s[k+1+1]=s[k+2]:=rfl;rw [e] at this;omega)
            go_enter Tryz.func153,Tryz.ntmps153
            go_wp2_with (go_at_call 182;((with_reducible refine (six_any _ _).mono ?_);rintro e w' ⟨rfl,rfl⟩))
            go_ret2
            exact PartP.mk HP.out (by decide) ⟨0,rfl⟩
          · have HP:Hid (hexL (s[k+1+1]::s[k+1+1+1]::s.toList.drop (k+1+1+1+1))=(0,0)):=hexL_no (fun h=>by have:=h.2;have e:s[k+1+1+1]=s[k+3]:=rfl;rw [e] at this;omega)
            go_enter Tryz.func153,Tryz.ntmps153
            go_wp2_with (go_at_call 182;((with_reducible refine (six_any _ _).mono ?_);rintro e w' ⟨rfl,rfl⟩))
            go_ret2
            exact PartP.mk HP.out (by decide) ⟨0,rfl⟩
        · have HP:=Lib.hid (hexL_short (s:=s) (k:=k+1+1) (by omega))
          go_enter Tryz.func153,Tryz.ntmps153
          go_wp2_with fail
          go_ret2
          exact PartP.mk HP.out (by decide) ⟨0,rfl⟩
      · have HP:=Lib.hid (escL_no (l:=s.toList.drop (k+1+1)) (by rw [hd];simpa using h1) (by rw [hd];simpa using h2) (by rw [hd];simpa using h3) (by rw [hd];simpa using h4))
        by_cases hk3:k+3<s.size
        all_goals
          go_enter Tryz.func153,Tryz.ntmps153
          go_wp2_with fail
          go_ret2
          exact PartP.mk HP.out (by decide) ⟨0,rfl⟩
    · rw [drop_end s (k+1) hk1]
      have hk3:¬k+3<s.size:=by omega
      go_enter Tryz.func153,Tryz.ntmps153
      go_wp2_with fail
      go_ret2
      exact PartP.mk rfl (by decide) ⟨0,rfl⟩
end Go.Proofs.YtkfihhagcimcmaaGreatDoor.Lx
