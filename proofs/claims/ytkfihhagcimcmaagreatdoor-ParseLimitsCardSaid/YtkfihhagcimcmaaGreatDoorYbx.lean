/- Qze -/
import Derived.Test.YtkfihhagcimcmaaGreatDoorChecked
import Derived.Test.YtkfihhagcimcmaaGreatDoorProg
import Derived.Test.YtkfihhagcimcmaaGreatDoorY1
import Derived.Test.YtkfihhagcimcmaaGreatDoorYbv
import Derived.Test.YtkfihhagcimcmaaGreatDoorYbw
namespace Go.Proofs.YtkfihhagcimcmaaGreatDoor.Ps
open Go.RowKit
open Lx (bl_step)
def TimesP (n:Nat) (w:World) (e:Ending) (w':World):Prop:=∃u:ByteArray,e= .returned (.string u)∧u.size=n∧Below w.heap.size w w'
set_option maxRecDepth 100000 in
set_option maxHeartbeats 4000000 in
theorem times_any (t:ByteArray) (m:Nat) (w:World) (ht:t.size≤8) (hm:m≤300):Calls Tryz.prog 22 #[.string t,.int .i64 (m:Int)] w (TimesP (m*t.size) w):=by
 go_enter Tryz.func22,Tryz.ntmps22
 go_wp2_with fail
 go_loopw [5,6] (fun v i wr=>∃(k:Nat) (u:ByteArray),k≤m∧i= .int .i64 k∧v= .string u∧Hid (u.size=k*t.size)∧Hid (Below w.heap.size w wr)) (fun _ i _=>m-(intOf i).toNat)
 case atStart=>exact ⟨0,⟨#[]⟩,by omega,rfl,rfl,Lib.hid (by simp;rfl),Lib.hid (Below.refl _ _)⟩
 case round=>
  obtain ⟨k,u,hk,rfl,rfl,hU,hB⟩:=hrel
  rename World=>wr
  by_cases hlt:k<m
  ·have hi1:(k:Int)<(m:Int):=by omega
   have hlen:u.size≤2400:=by
    have h1:k*t.size≤300*8:=Nat.mul_le_mul (by omega) ht
    have:=hU.out
    omega
   go_wp2_with fail
   go_roundw
   case rel=>exact ⟨k+1,u++t,by omega,by go_num,rfl,Lib.hid (by rw [ByteArray.size_append,hU.out,Nat.succ_mul]),hB⟩
   case measure=>simp [intOf];omega
  ·obtain rfl:k=m:=by omega
   have hi1:¬((k:Int)<(k:Int)):=by omega
   go_wp2_with fail
   go_ret
   exact ⟨u,rfl,hU.out,hB.out⟩
set_option maxRecDepth 100000 in
set_option maxHeartbeats 8000000 in
theorem reads_walk (s:ByteArray) (w:World) (hE:Lx.Ent w) (hs:s.size≤140737488355328):Calls Tryz.prog 3 #[.string s] w (Ans (.bool true) w):=by
 have HE:=Lib.hid hE
 have HAW:∀W,Hid (Below w.heap.size w W)→Hid (Calls Tryz.prog 14 #[] W (Ans (.bool true) W)):=fun W hW=>Lib.hid (awake_any W (HE.out.below hW.out))
 have HB0:=Lib.hid (Below.refl w.heap.size w)
 by_cases h8:s.size≤800
 ·obtain ⟨⟨l,ra,re⟩,hR⟩:∃R,parseM s.toList=R:=⟨_,rfl⟩
  have HP:∀W,Hid (Below w.heap.size w W)→Hid (Calls Tryz.prog 15 #[.string s] W (PLQ (l,ra,re) W)):=fun W hW=>Lib.hid (by have:=parse_any s W (HE.out.below hW.out) (by omega);rw [hR] at this;exact this.mono fun _ _ h=>plq_of h)
  have HQ:∀W,Hid (Below w.heap.size w W)→Hid (Calls Tryz.prog 16 #[.string s] W (PLQ (l,ra,re) W)):=fun W hW=>Lib.hid (by have:=rparse_any s W (by omega);rw [hR] at this;exact this.mono fun _ _ h=>plq_of h)
  clear hE hR
  go_enter Tryz.func3,Tryz.ntmps3
  go_wp2_with (first
   |(go_at_call 15;refine (HP _ HB0).out.mono ?_;rintro e w1 ⟨a1,c1,L1,rfl,hm1,hl1,hr1,hb⟩;dsimp only;have HM1:=Lib.hid hm1;have HL1:=Lib.hid hl1;have HR1:=Lib.hid hr1;have HB1:=Lib.hid hb;clear hm1 hl1 hr1 hb)
   |(go_at_call 16;refine (HQ _ HB1).out.mono ?_;rintro e w2 ⟨a2,c2,L2,rfl,hm2,hl2,hr2,hb⟩;dsimp only;replace HR1:=Lib.hid (HR1.out.below hb);have HM2:=Lib.hid hm2;have HR2:=Lib.hid hr2;replace HB1:=Lib.hid (bl_step HB1.out hb);clear hm2 hl2 hr2 hb)
   |(go_at_call 14;refine (HAW _ HB1).out.mono ?_;rintro e w3 ⟨rfl,hb⟩;replace HR1:=Lib.hid (HR1.out.below hb);replace HR2:=Lib.hid (HR2.out.below hb);replace HB1:=Lib.hid (bl_step HB1.out hb);clear hb)
   |(go_at_call 17;refine (dsame_any L1 L2 a1 a2 c1 c2 _ HR1.out HR2.out (HM1.out.trans HM2.out.symm) HL1.out).mono ?_;rintro e w4 ⟨rfl,hb⟩;replace HB1:=Lib.hid (bl_step HB1.out hb);clear hb))
  go_ret
  exact ⟨rfl,HB1.out⟩
 ·clear hE
  go_enter Tryz.func3,Tryz.ntmps3
  go_wp2_with (go_at_call 14;refine (HAW _ HB0).out.mono ?_;rintro e w1 ⟨rfl,hb⟩;have HB1:=Lib.hid hb;clear hb)
  go_ret
  exact ⟨rfl,HB1.out⟩
end Go.Proofs.YtkfihhagcimcmaaGreatDoor.Ps
