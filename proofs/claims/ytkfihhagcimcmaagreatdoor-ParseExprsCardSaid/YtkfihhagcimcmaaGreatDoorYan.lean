/- LUb -/
import Derived.Test.YtkfihhagcimcmaaGreatDoorChecked
import Derived.Test.YtkfihhagcimcmaaGreatDoorY0
namespace Go.Proofs.YtkfihhagcimcmaaGreatDoor.Nu
open Go.RowKit
def inB (n:Int):Bool:=decide (-9007199254740992≤n∧n≤9007199254740992)
theorem inB_yes {n:Int} (h:inB n=true): -9007199254740992≤n∧n≤9007199254740992:=by simpa [inB] using h
theorem inB_mk {n:Int} (h: -9007199254740992≤n) (h':n≤9007199254740992):inB n=true:=by simp [inB];omega
theorem inB_mkno {n:Int} (h:n< -9007199254740992∨9007199254740992<n):inB n=false:=by simp [inB];omega
theorem ret_bool {a b:Bool} (h:a=b):Ending.returned (.bool a)= .returned (.bool b):=by rw [h]
theorem ret_str {a b:ByteArray} (h:a=b):Ending.returned (.string a)= .returned (.string b):=by rw [h]
set_option maxHeartbeats 400000 in
theorem in_any (n:Int) (w:World):Calls Tryz.prog 160 #[.int .i64 n] w fun e w'=>e= .returned (.bool (inB n))∧w=w':=by
 by_cases h1: -9007199254740992≤n<;>by_cases h2:n≤9007199254740992
 all_goals
  go_enter Tryz.func160,Tryz.ntmps160
  go_wp2
  go_ret
  exact ⟨ret_bool (by simp [inB];omega),rfl⟩
set_option maxHeartbeats 400000 in
theorem within_yes (n:Int) (w:World) (h:inB n=true):Calls Tryz.prog 134 #[.int .i64 n] w fun e w'=>e= .returned (.tuple #[.int .i64 n,.int .i64 0])∧w=w':=by
 go_enter Tryz.func134,Tryz.ntmps134
 go_wp2_with (go_at_call 160;refine (in_any _ _).mono ?_;rintro e w' ⟨rfl,rfl⟩)
 go_ret2
 exact ⟨rfl,rfl⟩
set_option maxHeartbeats 400000 in
theorem within_no (n:Int) (w:World) (h:inB n=false):Calls Tryz.prog 134 #[.int .i64 n] w fun e w'=>e= .returned (.tuple #[.int .i64 0,.int .i64 25])∧w=w':=by
 go_enter Tryz.func134,Tryz.ntmps134
 go_wp2_with (go_at_call 160;refine (in_any _ _).mono ?_;rintro e w' ⟨rfl,rfl⟩)
 go_ret2
 exact ⟨rfl,rfl⟩
def outV (b c:Bool) (v:Int):Int:=bif b then (bif c then v else 0) else 0
def outE (b c:Bool):Int:=bif b then (bif c then 0 else 25) else 9
theorem ret_two {a b c d:Int} (h:a=c) (h':b=d):Ending.returned (.tuple #[.int .i64 a,.int .i64 b])= .returned (.tuple #[.int .i64 c,.int .i64 d]):=by rw [h,h']
set_option maxHeartbeats 400000 in
theorem within_any (n:Int) (w:World):Calls Tryz.prog 134 #[.int .i64 n] w fun e w'=>e= .returned (.tuple #[.int .i64 (outV true (inB n) n),.int .i64 (outE true (inB n))])∧w=w':=by
 cases h:inB n
 ·exact (within_no n w h)
 ·exact (within_yes n w h)
end Go.Proofs.YtkfihhagcimcmaaGreatDoor.Nu
