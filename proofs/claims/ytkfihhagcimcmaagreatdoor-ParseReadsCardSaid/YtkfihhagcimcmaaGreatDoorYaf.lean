/- Sa, Sb, Sc -/
import Derived.Test.YtkfihhagcimcmaaGreatDoorChecked
import Derived.Test.YtkfihhagcimcmaaGreatDoorY0
import Derived.Test.YtkfihhagcimcmaaGreatDoorYad
namespace Go.Proofs.YtkfihhagcimcmaaGreatDoor
open Go.RowKit
def inB (n:Int):Bool:=decide (-9007199254740992≤n)&&decide (n≤9007199254740992)
theorem ret_bool {a b:Bool} (h:a=b):Ending.returned (.bool a)= .returned (.bool b):=by rw [h]
theorem ret_int {a b:Int} (h:a=b):Ending.returned (.int .i64 a)= .returned (.int .i64 b):=by rw [h]
set_option maxHeartbeats 400000 in
theorem rin_any (n:Int) (w:World):Calls Tryz.prog 103 #[.int .i64 n] w fun e w'=>e= .returned (.bool (inB n))∧w=w':=by
 by_cases h1: -9007199254740992≤n<;>by_cases h2:n≤9007199254740992
 all_goals
  go_enter Tryz.func103,Tryz.ntmps103
  go_wp2
  go_ret
  exact ⟨ret_bool (by simp [inB,h1,h2]),rfl⟩
def numB (op n:Int):Bool:=if op=1∨op=7∨op=8 then inB n else if op=3 then decide (n=0)||decide (n=1) else if op=4 then decide (n=1)||decide (n=2)||decide (n=3)||decide (n=5) else decide (n=0)
theorem eq_no {a b:Int} (h:¬a=b):(a==b)=false:=by simpa using h
def emB (n:Int) (sz:Nat) (o:Bool) (pl ql kl:Nat):Bool:=decide (n=0)&&decide (sz=0)&&!o&&decide (pl=0)&&decide (ql=0)&&decide (kl=0)
theorem size_nil {s:ByteArray} (h:s.size=0):s=⟨#[]⟩:=by
 cases s with
 |mk d=>congr 1;exact Array.eq_empty_of_size_eq_zero h
end Go.Proofs.YtkfihhagcimcmaaGreatDoor
namespace Go.Proofs.YtkfihhagcimcmaaGreatDoor
open Go.RowKit
theorem own_base {w:World} {base e size n:Nat} {v:Value} {xs:List Value} (h:w.ownsRow base e size v n xs):∀k,v.ownBlock=some k→base≤k:=by
 intro k hk
 rcases h.2 with ⟨rfl,_⟩|⟨g,cap,cur,rfl,hb,_⟩
 ·simp [Value.ownBlock] at hk
 ·simp [Value.ownBlock] at hk;omega
theorem row_own {w:World} {base n:Nat} {v:Value} {xs:List ByteArray} (h:w.ownsRow base 9 1 v n (xs.map Value.string)) (hn:n≤140737488355328) (hx:∀x∈xs,x.size≤140737488355328):∃a cap,v= .slice a n cap∧Nm.StrRow w a n xs:=by
 have hl:=h.1
 rw [List.length_map,Nat.mul_one] at hl
 rcases h.2 with ⟨rfl,hn0⟩|⟨g,cap,cur,rfl,hb,hg,hcap,hm,hsz,htake⟩
 ·obtain rfl:n=0:=hn0
  exact ⟨none,0,rfl,hl,by omega,fun i x hi=>hx x (List.mem_of_getElem? hi),fun h=>absurd h (by omega)⟩
 ·refine ⟨_,cap,rfl,hl,hn,fun i x hi=>hx x (List.mem_of_getElem? hi),fun _=>⟨g,0,rfl,?_,fun i x hi=>?_⟩⟩
  ·exact (Array.getElem?_eq_some_iff.1 hg).1
  ·have hi2:=(List.getElem?_eq_some_iff.1 hi).1
   have h1:(xs.map Value.string)[i]?=some (.string x):=by simp [hi]
   rw [←htake,Nat.mul_one,List.getElem?_take_of_lt (by omega)] at h1
   simp only [World.cell?,hg,Nat.zero_add]
   simpa using h1
theorem info9:(Tryz.prog.info? 9).map (fun i=>(i.zero,i.size,i.bytes))=some (some (.string ByteArray.empty),1,16):=by kernel_rfl
def BoolP (b:Bool) (w:World) (e:Ending) (w':World):Prop:=e= .returned (.bool b)∧Below w.heap.size w w'
noncomputable def risP (ps:List (ByteArray×Ex)):Bool:=decide (ps.length≤32)&&Nm.risB (ps.map (·.1))
end Go.Proofs.YtkfihhagcimcmaaGreatDoor
namespace Go.Proofs.YtkfihhagcimcmaaGreatDoor
open Go.RowKit
theorem bcell {W w1:World} (hb:Below W.heap.size W w1):(∀b o,b<W.heap.size→w1.cell? ⟨b,o,none⟩=W.cell? ⟨b,o,none⟩)∧(∀b o,b<W.heap.size→w1.frozen? ⟨b,o,none⟩=W.frozen? ⟨b,o,none⟩):=
 ⟨fun b o h=>hb.cell (p:=⟨b,o,none⟩) h,fun b o h=>hb.frozen (p:=⟨b,o,none⟩) h⟩
noncomputable def ownB:Ex→Bool
 | .mk op n s path ps o ks=>
  if op=10 then risP ps&&emB n s.size false path.length 0 ks.length
  else if op=11∨op=12 then (decide (2≤ks.length)&&decide (ks.length≤32))&&emB n s.size o path.length ps.length 0
  else if op=13∨op=14∨op=15 then decide (ks.length=2)&&emB n s.size o path.length ps.length 0
  else if op=9 then (Nm.pathB path&&decide (s.size=0))&&(numB 9 n&&emB 0 0 o 0 ps.length ks.length)
  else if op=2 then decide (s.size≤256)&&(numB 2 n&&emB 0 0 o path.length ps.length ks.length)
  else if op=1∨op=7∨op=8∨op=3∨op=4∨op=5∨op=6 then numB op n&&emB 0 s.size o path.length ps.length ks.length
  else false
theorem ownB_eq (op n:Int) (s:ByteArray) (path:List ByteArray) (ps:List (ByteArray×Ex)) (o:Bool) (ks:List Ex):ownB (.mk op n s path ps o ks)=if op=10 then risP ps&&emB n s.size false path.length 0 ks.length
  else if op=11∨op=12 then (decide (2≤ks.length)&&decide (ks.length≤32))&&emB n s.size o path.length ps.length 0
  else if op=13∨op=14∨op=15 then decide (ks.length=2)&&emB n s.size o path.length ps.length 0
  else if op=9 then (Nm.pathB path&&decide (s.size=0))&&(numB 9 n&&emB 0 0 o 0 ps.length ks.length)
  else if op=2 then decide (s.size≤256)&&(numB 2 n&&emB 0 0 o path.length ps.length ks.length)
  else if op=1∨op=7∨op=8∨op=3∨op=4∨op=5∨op=6 then numB op n&&emB 0 s.size o path.length ps.length ks.length
  else false:=rfl
structure Lay (w:World) (h:Hd) (pa:List ByteArray) (ps:List (ByteArray×Ex)) (ks:List Ex):Prop where
 pl:pa.length=h.pl
 ql:ps.length=h.ql
 kl:ks.length=h.kl
 pm:h.pl≤140737488355328
 qm:h.ql≤140737488355328
 km:h.kl≤140737488355328
 sm:h.s.size≤140737488355328
theorem lay_of {w:World} {n:Nat} {h:Hd} {op m:Int} {s:ByteArray} {pa:List ByteArray} {ps:List (ByteArray×Ex)} {o:Bool} {ks:List Ex} (hx:InX w (n+1) h (.mk op m s pa ps o ks)):Lay w h pa ps ks:=by
 obtain ⟨h1,h2,h3,h4,hz,h5,h6,h7⟩:=hx
 exact ⟨h5.count,h6.count,h7.count,h5.max,h6.max,h7.max,by rw [h3];exact hz⟩
end Go.Proofs.YtkfihhagcimcmaaGreatDoor
