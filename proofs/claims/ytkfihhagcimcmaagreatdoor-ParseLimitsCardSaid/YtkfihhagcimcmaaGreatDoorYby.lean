/- Qzf -/
import Derived.Test.YtkfihhagcimcmaaGreatDoorChecked
import Derived.Test.YtkfihhagcimcmaaGreatDoorProg
import Derived.Test.YtkfihhagcimcmaaGreatDoorY1
import Derived.Test.YtkfihhagcimcmaaGreatDoorYbx
namespace Go.Proofs.YtkfihhagcimcmaaGreatDoor.Ps
open Go.RowKit
open Lx (bl_step)
def PLX (t:ByteArray) (w:World) (e:Ending) (w':World):Prop:=∃l ra re,Hid (parseM t.toList=(l,ra,re))∧PLQ (l,ra,re) w e w'
theorem plx_of {t:ByteArray} {w w':World} {e:Ending} (h:ParseQ VL (parseM t.toList) w e w'):PLX t w e w':=⟨_,_,_,Lib.hid rfl,plq_of h⟩
theorem lits:(⟨#[97,58,32]⟩:ByteArray).size=3∧(⟨#[49]⟩:ByteArray).size=1∧(⟨#[59]⟩:ByteArray).size=1∧(⟨#[97,58,32,97]⟩:ByteArray).size=4∧(⟨#[97,58,32,49]⟩:ByteArray).size=4:=⟨rfl,rfl,rfl,rfl,rfl⟩
set_option maxRecDepth 100000 in
set_option maxHeartbeats 16000000 in
theorem limits_walk (k n:Int) (w:World) (hE:Lx.Ent w) (hk:0≤k∧k≤255) (hn:0≤n∧n≤65535):Calls Tryz.prog 5 #[.int .u8 k,.int .u16 n] w (Ans (.bool true) w):=by
 have hk1:=hk.1
 have hk2:=hk.2
 have hn1:=hn.1
 have hn2:=hn.2
 have HE:=Lib.hid hE
 have HAW:∀W,Hid (Below w.heap.size w W)→Hid (Calls Tryz.prog 14 #[] W (Ans (.bool true) W)):=fun W hW=>Lib.hid (awake_any W (HE.out.below hW.out))
 have HB1:=Lib.hid (Below.refl w.heap.size w)
 have HT:∀(t:ByteArray) (W:World),t.size≤8→Hid (Calls Tryz.prog 22 #[.string t,.int .i64 (n%300)] W (fun e w'=>∃u:ByteArray,e= .returned (.string u)∧u.size≤299*t.size∧Below W.heap.size W w')):=fun t W ht=>Lib.hid (by
  obtain ⟨m,hm⟩:∃m:Nat,n%300=(m:Int):=⟨(n%300).toNat,by omega⟩
  rw [hm]
  refine (times_any t m W ht (by omega)).mono ?_
  rintro e w' ⟨u,rfl,hu,hb⟩
  exact ⟨u,rfl,by rw [hu];exact Nat.mul_le_mul_right _ (by omega),hb⟩)
 have HP:∀(t:ByteArray) (W:World),t.size≤4096→Hid (Below w.heap.size w W)→Hid (Calls Tryz.prog 15 #[.string t] W (PLX t W)):=fun t W ht hW=>Lib.hid ((parse_any t W (HE.out.below hW.out) ht).mono fun _ _ h=>plx_of h)
 have HQ:∀(t:ByteArray) (W:World),t.size≤4096→Hid (Calls Tryz.prog 16 #[.string t] W (PLX t W)):=fun t W ht=>Lib.hid ((rparse_any t W ht).mono fun _ _ h=>plx_of h)
 clear hE hk hn
 go_enter Tryz.func5,Tryz.ntmps5
 go_wp2_with (first
  |(go_at_call 22;refine (HT _ _ (by decide)).out.mono ?_;rintro e w1 ⟨u,rfl,hu,hb⟩;have hz:=Nat.le_trans hu (Nat.mul_le_mul_left 299 (show _≤4 by decide));clear hu;replace HB1:=Lib.hid (bl_step HB1.out hb);clear hb)
  |(go_at_call 15;refine (HP _ _ (by have:=lits;(try simp only [ByteArray.size_append]);omega) HB1).out.mono ?_;rintro e w2 ⟨l,ra,re,HR0,a1,c1,L1,rfl,hm1,hl1,hr1,hb⟩;dsimp only;have HM1:=Lib.hid hm1;have HL1:=Lib.hid hl1;have HR1:=Lib.hid hr1;replace HB1:=Lib.hid (bl_step HB1.out hb);clear hm1 hl1 hr1 hb)
  |(go_at_call 16;refine (HQ _ _ (by have:=lits;(try simp only [ByteArray.size_append]);omega)).out.mono ?_;rintro e w3 ⟨l2,ra2,re2,HR3,a2,c2,L2,rfl,hm2,hl2,hr2,hb⟩;have hh:=HR0.out.symm.trans HR3.out;simp only [Prod.mk.injEq] at hh;obtain ⟨rfl,rfl,rfl⟩:=hh;dsimp only;replace HR1:=Lib.hid (HR1.out.below hb);have HM2:=Lib.hid hm2;have HR2:=Lib.hid hr2;replace HB1:=Lib.hid (bl_step HB1.out hb);clear hm2 hl2 hr2 hb)
  |(go_at_call 14;refine (HAW _ HB1).out.mono ?_;rintro e w4 ⟨rfl,hb⟩;replace HR1:=Lib.hid (HR1.out.below hb);replace HR2:=Lib.hid (HR2.out.below hb);replace HB1:=Lib.hid (bl_step HB1.out hb);clear hb)
  |(go_at_call 17;refine (dsame_any L1 L2 a1 a2 c1 c2 _ HR1.out HR2.out (HM1.out.trans HM2.out.symm) HL1.out).mono ?_;rintro e w5 ⟨rfl,hb⟩;replace HB1:=Lib.hid (bl_step HB1.out hb);clear hb))
 all_goals
  go_ret
  exact ⟨rfl,HB1.out⟩
end Go.Proofs.YtkfihhagcimcmaaGreatDoor.Ps
