/- Qy -/
import Derived.Test.YtkfihhagcimcmaaGreatDoorChecked
import Derived.Test.YtkfihhagcimcmaaGreatDoorProg
import Derived.Test.YtkfihhagcimcmaaGreatDoorY1
import Derived.Test.YtkfihhagcimcmaaGreatDoorYak
import Derived.Test.YtkfihhagcimcmaaGreatDoorYbs
import Derived.Test.YtkfihhagcimcmaaGreatDoorYbt
import Derived.Test.YtkfihhagcimcmaaGreatDoorYca
namespace Go.Proofs.YtkfihhagcimcmaaGreatDoor.Ps
open Go.RowKit
open Lx (bl_alloc lexL)
theorem rsame_as (w0:World) (h h':Hd) (x:Ex) (w:World) (hx:XW w0 h x) (hy:XW w0 h' x) (hb:Below w0.heap.size w0 w):Calls Tryz.prog 20 #[h.agg,h'.agg] w (Ans (.bool true) w):=by
 have h1:=rsame_any w0 _ _ h h' x x w hx hy hb
 rw [eqB_yes rfl] at h1
 exact h1.mono fun e w' ⟨h1,h2⟩=>⟨h1,h2⟩
theorem rcheck_ok (w0:World) (h:Hd) (x:Ex) (w:World) (hx:XW w0 h x) (hb:Below w0.heap.size w0 w) (hr:Hid (Rt x∧deep x≤16∧cnt x≤1000000)):Calls Tryz.prog 21 #[h.agg] w (Ans (.int .i64 0) w):=by
 have h1:=rcheck_any w0 w _ h x hx hb hr.out.2.2
 rw [show rightB (lev x) x=true from hr.out.1,if_pos rfl,if_neg (by have:=hr.out.2.1;unfold deep at this;omega)] at h1
 exact h1.mono fun e w' ⟨h1,h2⟩=>⟨h1,h2⟩
set_option maxRecDepth 100000 in
set_option maxHeartbeats 16000000 in
theorem exprs_walk (s:ByteArray) (w:World) (hE:Lx.Ent w) (hs:s.size≤140737488355328):Calls Tryz.prog 4 #[.string s] w (Ans (.bool true) w):=by
 have HE:=Lib.hid hE
 have HAW:∀W,Hid (Below w.heap.size w W)→Hid (Calls Tryz.prog 14 #[] W (Ans (.bool true) W)):=fun W hW=>Lib.hid (awake_any W (HE.out.below hW.out))
 have HB0:=Lib.hid (Below.refl w.heap.size w)
 by_cases h8:s.size≤800
 ·obtain ⟨⟨x,ra,re⟩,hR⟩:∃R,exprM s.toList=R:=⟨_,rfl⟩
  have HP:∀W,Hid (Below w.heap.size w W)→Hid (Calls Tryz.prog 18 #[.string s] W (ParseQ VX (x,ra,re) W)):=fun W hW=>Lib.hid (by have:=expr_any s W (HE.out.below hW.out) (by omega);rw [hR] at this;exact this)
  have HQ:∀W,Hid (Below w.heap.size w W)→Hid (Calls Tryz.prog 19 #[.string s] W (RxQ s (x,ra,re) W)):=fun W hW=>Lib.hid (by have:=rexpr_any s W (by omega);rw [hR] at this;exact this)
  have HOK:Hid (OkL (lexL s.toList).1∧(lexL s.toList).1.length≤4096):=Lib.hid (by
   have hsz:s.toList.length=s.size:=(Nm.size_list s).symm
   exact ⟨lex_ok (by omega),by have:=lex_len s.toList;omega⟩)
  have HRT:Hid (ExQ s (x,ra,re)→re=0→Rt x∧deep x≤16∧cnt x≤1000000):=Lib.hid fun h h0=>by
   obtain ⟨M,hM⟩:=h h0
   have h1:=whole_rt HOK.out.1 hM
   have h2:=(whole_fits _ _ _ _ hM).2
   have h3:=HOK.out.2
   exact ⟨h1.1,h1.2,by dsimp only at h2;omega⟩
  clear hE hR
  cases hre:(re==0) with
  |true=>
   have hre2:(re !=0)=false:=by simpa using hre
   have HR0:Hid (re=0):=Lib.hid (by simpa using hre)
   go_enter Tryz.func4,Tryz.ntmps4
   go_wp2_with (first
    |(go_at_call 18;refine (HP _ HB0).out.mono ?_;rintro e w1 ⟨v,B,rfl,hB,hv,hb⟩;obtain ⟨op,nn,s1,p,pl,pc,q,ql,qc,oo,ka,kl,kc,rfl,hX⟩:=VX.hd hv;dsimp only;have HF:=Lib.hid (((Fr.start w).call hb).new_ #[.int .i64 op,.int .i64 nn,.string s1,.slice p pl pc,.slice q ql qc,.bool oo,.slice ka kl kc] 35 (n:=w1.heap.size) rfl);have HX:=Lib.hid (XW.below hX.xw (bl_alloc (o:= .cells #[.int .i64 op,.int .i64 nn,.string s1,.slice p pl pc,.slice q ql qc,.bool oo,.slice ka kl kc] 35) (Below.refl _ _)));have f:=HF.out.facts;dsimp only [Fs,Nes,List.map] at f;clear hb hv hX hB)
    |(go_at_call 19;refine (HQ _ (Lib.hid HF.out.bl)).out.mono ?_;rintro e w2 ⟨⟨v,B,rfl,hB,hv,hb⟩,hq⟩;obtain ⟨op3,nn3,s13,p3,pl3,pc3,q3,ql3,qc3,oo3,ka3,kl3,kc3,rfl,hX⟩:=VX.hd hv;dsimp only;replace HF:=Lib.hid (HF.out.call hb);replace HX:=Lib.hid ((HX.out.below hb).below (bl_alloc (o:= .cells #[.int .i64 op3,.int .i64 nn3,.string s13,.slice p3 pl3 pc3,.slice q3 ql3 qc3,.bool oo3,.slice ka3 kl3 kc3] 35) (Below.refl _ _)));replace HF:=Lib.hid (HF.out.new_ #[.int .i64 op3,.int .i64 nn3,.string s13,.slice p3 pl3 pc3,.slice q3 ql3 qc3,.bool oo3,.slice ka3 kl3 kc3] 35 (n:=w2.heap.size) (rfl));have HY:=Lib.hid (XW.below hX.xw (bl_alloc (o:= .cells #[.int .i64 op3,.int .i64 nn3,.string s13,.slice p3 pl3 pc3,.slice q3 ql3 qc3,.bool oo3,.slice ka3 kl3 kc3] 35) (Below.refl _ _)));have HEQ:=Lib.hid hq;clear f;have f:=HF.out.facts;dsimp only [Fs,Nes,List.map] at f;clear hb hv hX hB hq)
    |(go_at_call 20;refine (rsame_as _ ⟨op,nn,s1,p,pl,pc,q,ql,qc,oo,ka,kl,kc⟩ ⟨op3,nn3,s13,p3,pl3,pc3,q3,ql3,qc3,oo3,ka3,kl3,kc3⟩ x _ HX.out HY.out (Below.refl _ _)).mono ?_;rintro e w3 ⟨rfl,hb⟩;replace HF:=Lib.hid (HF.out.call hb);replace HX:=Lib.hid (HX.out.below hb);clear f;have f:=HF.out.facts;dsimp only [Fs,Nes,List.map] at f;clear hb)
    |(go_at_call 14;refine (HAW _ (Lib.hid HF.out.bl)).out.mono ?_;rintro e w4 ⟨rfl,hb⟩;replace HF:=Lib.hid (HF.out.call hb);replace HX:=Lib.hid (HX.out.below hb);clear f;have f:=HF.out.facts;dsimp only [Fs,Nes,List.map] at f;clear hb)
    |(go_at_call 21;refine (rcheck_ok _ ⟨op,nn,s1,p,pl,pc,q,ql,qc,oo,ka,kl,kc⟩ x _ HX.out (Below.refl _ _) (Lib.hid (HRT.out HEQ.out HR0.out))).mono ?_;rintro e w5 ⟨rfl,hb⟩;replace HF:=Lib.hid (HF.out.call hb);clear f;have f:=HF.out.facts;dsimp only [Fs,Nes,List.map] at f;clear hb))
   go_ret
   exact ⟨rfl,HF.out.bl⟩
  |false=>
   have hre2:(re !=0)=true:=by simpa using hre
   go_enter Tryz.func4,Tryz.ntmps4
   go_wp2_with (first
    |(go_at_call 18;refine (HP _ HB0).out.mono ?_;rintro e w1 ⟨v,B,rfl,hB,hv,hb⟩;obtain ⟨op,nn,s1,p,pl,pc,q,ql,qc,oo,ka,kl,kc,rfl,hX⟩:=VX.hd hv;dsimp only;have HF:=Lib.hid (((Fr.start w).call hb).new_ #[.int .i64 op,.int .i64 nn,.string s1,.slice p pl pc,.slice q ql qc,.bool oo,.slice ka kl kc] 35 (n:=w1.heap.size) rfl);have HX:=Lib.hid (XW.below hX.xw (bl_alloc (o:= .cells #[.int .i64 op,.int .i64 nn,.string s1,.slice p pl pc,.slice q ql qc,.bool oo,.slice ka kl kc] 35) (Below.refl _ _)));have f:=HF.out.facts;dsimp only [Fs,Nes,List.map] at f;clear hb hv hX hB)
    |(go_at_call 19;refine (HQ _ (Lib.hid HF.out.bl)).out.mono ?_;rintro e w2 ⟨⟨v,B,rfl,hB,hv,hb⟩,hq⟩;obtain ⟨op3,nn3,s13,p3,pl3,pc3,q3,ql3,qc3,oo3,ka3,kl3,kc3,rfl,hX⟩:=VX.hd hv;dsimp only;replace HF:=Lib.hid (HF.out.call hb);replace HX:=Lib.hid ((HX.out.below hb).below (bl_alloc (o:= .cells #[.int .i64 op3,.int .i64 nn3,.string s13,.slice p3 pl3 pc3,.slice q3 ql3 qc3,.bool oo3,.slice ka3 kl3 kc3] 35) (Below.refl _ _)));replace HF:=Lib.hid (HF.out.new_ #[.int .i64 op3,.int .i64 nn3,.string s13,.slice p3 pl3 pc3,.slice q3 ql3 qc3,.bool oo3,.slice ka3 kl3 kc3] 35 (n:=w2.heap.size) (rfl));have HY:=Lib.hid (XW.below hX.xw (bl_alloc (o:= .cells #[.int .i64 op3,.int .i64 nn3,.string s13,.slice p3 pl3 pc3,.slice q3 ql3 qc3,.bool oo3,.slice ka3 kl3 kc3] 35) (Below.refl _ _)));have HEQ:=Lib.hid hq;clear f;have f:=HF.out.facts;dsimp only [Fs,Nes,List.map] at f;clear hb hv hX hB hq)
    |(go_at_call 20;refine (rsame_as _ ⟨op,nn,s1,p,pl,pc,q,ql,qc,oo,ka,kl,kc⟩ ⟨op3,nn3,s13,p3,pl3,pc3,q3,ql3,qc3,oo3,ka3,kl3,kc3⟩ x _ HX.out HY.out (Below.refl _ _)).mono ?_;rintro e w3 ⟨rfl,hb⟩;replace HF:=Lib.hid (HF.out.call hb);replace HX:=Lib.hid (HX.out.below hb);clear f;have f:=HF.out.facts;dsimp only [Fs,Nes,List.map] at f;clear hb)
    |(go_at_call 14;refine (HAW _ (Lib.hid HF.out.bl)).out.mono ?_;rintro e w4 ⟨rfl,hb⟩;replace HF:=Lib.hid (HF.out.call hb);replace HX:=Lib.hid (HX.out.below hb);clear f;have f:=HF.out.facts;dsimp only [Fs,Nes,List.map] at f;clear hb))
   go_ret
   exact ⟨rfl,HF.out.bl⟩
 ·clear hE
  go_enter Tryz.func4,Tryz.ntmps4
  go_wp2_with (go_at_call 14;refine (HAW _ HB0).out.mono ?_;rintro e w1 ⟨rfl,hb⟩;have HB1:=Lib.hid hb;clear hb)
  go_ret
  exact ⟨rfl,HB1.out⟩
end Go.Proofs.YtkfihhagcimcmaaGreatDoor.Ps
