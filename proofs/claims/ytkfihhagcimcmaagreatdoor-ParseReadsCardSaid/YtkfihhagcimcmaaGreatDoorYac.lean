/- Nb, Nc, Nd, Ne, Nf, Ng -/
import Derived.Test.YtkfihhagcimcmaaGreatDoorChecked
import Derived.Test.YtkfihhagcimcmaaGreatDoorY0
import Derived.Test.YtkfihhagcimcmaaGreatDoorYab
namespace Go.Proofs.YtkfihhagcimcmaaGreatDoor.Nm
open Go.RowKit
theorem ret_bool {a b:Bool} (h:a=b):Ending.returned (.bool a)= .returned (.bool b):=by rw [h]
theorem ret_int {k:IntKind} {a b:Int} (h:a=b):Ending.returned (.int k a)= .returned (.int k b):=by rw [h]
set_option maxHeartbeats 1000000 in
theorem rword_any (s:ByteArray) (w:World):Calls Tryz.prog 119 #[.string s] w fun e w'=>e= .returned (.int .i64 (wordN s.toList))∧w=w':=by
  go_enter Tryz.func119,Tryz.ntmps119
  go_wp2
  all_goals
    go_ret
    exact ⟨ret_int (by simp only [wordN, *];rfl),rfl⟩
def NotYet (L:List UInt8) (k:Nat):Prop:=∀j,j<k→(L==wordsL.getD j [])=false
theorem NotYet.first (L:List UInt8):NotYet L 0:=fun _ h=>absurd h (by omega)
theorem NotYet.succ {L:List UInt8} {k:Nat} (h:NotYet L k) (hk:(L==wordsL.getD k [])=false):NotYet L (k+1):=fun j hj=>by
  by_cases e:j=k
  · subst e;exact hk
  · exact h j (by omega)
theorem NotYet.word {L:List UInt8} {k:Nat} (h:NotYet L k) (hk:k<9) (he:(L==wordsL.getD k [])=true):(k:Int)+1=wordN L:=by
  match k,hk with
  |0,_=>
    have e:(L==[97,110,121])=true:=he
    simp only [wordN,e];rfl
  |1,_=>
    have f0:(L==[97,110,121])=false:=h 0 (by decide)
    have e:(L==[98,111,111,108])=true:=he
    simp only [wordN,e,f0];rfl
  |2,_=>
    have f0:(L==[97,110,121])=false:=h 0 (by decide)
    have f1:(L==[98,111,111,108])=false:=h 1 (by decide)
    have e:(L==[99,111,109,112,117,116,101,100])=true:=he
    simp only [wordN,e,f0,f1];rfl
  |3,_=>
    have f0:(L==[97,110,121])=false:=h 0 (by decide)
    have f1:(L==[98,111,111,108])=false:=h 1 (by decide)
    have f2:(L==[99,111,109,112,117,116,101,100])=false:=h 2 (by decide)
    have e:(L==[102,97,108,115,101])=true:=he
    simp only [wordN,e,f0,f1,f2];rfl
  |4,_=>
    have f0:(L==[97,110,121])=false:=h 0 (by decide)
    have f1:(L==[98,111,111,108])=false:=h 1 (by decide)
    have f2:(L==[99,111,109,112,117,116,101,100])=false:=h 2 (by decide)
    have f3:(L==[102,97,108,115,101])=false:=h 3 (by decide)
    have e:(L==[105,110,116])=true:=he
    simp only [wordN,e,f0,f1,f2,f3];rfl
  |5,_=>
    have f0:(L==[97,110,121])=false:=h 0 (by decide)
    have f1:(L==[98,111,111,108])=false:=h 1 (by decide)
    have f2:(L==[99,111,109,112,117,116,101,100])=false:=h 2 (by decide)
    have f3:(L==[102,97,108,115,101])=false:=h 3 (by decide)
    have f4:(L==[105,110,116])=false:=h 4 (by decide)
    have e:(L==[110,111,110,101])=true:=he
    simp only [wordN,e,f0,f1,f2,f3,f4];rfl
  |6,_=>
    have f0:(L==[97,110,121])=false:=h 0 (by decide)
    have f1:(L==[98,111,111,108])=false:=h 1 (by decide)
    have f2:(L==[99,111,109,112,117,116,101,100])=false:=h 2 (by decide)
    have f3:(L==[102,97,108,115,101])=false:=h 3 (by decide)
    have f4:(L==[105,110,116])=false:=h 4 (by decide)
    have f5:(L==[110,111,110,101])=false:=h 5 (by decide)
    have e:(L==[114,101,115,111,117,114,99,101])=true:=he
    simp only [wordN,e,f0,f1,f2,f3,f4,f5];rfl
  |7,_=>
    have f0:(L==[97,110,121])=false:=h 0 (by decide)
    have f1:(L==[98,111,111,108])=false:=h 1 (by decide)
    have f2:(L==[99,111,109,112,117,116,101,100])=false:=h 2 (by decide)
    have f3:(L==[102,97,108,115,101])=false:=h 3 (by decide)
    have f4:(L==[105,110,116])=false:=h 4 (by decide)
    have f5:(L==[110,111,110,101])=false:=h 5 (by decide)
    have f6:(L==[114,101,115,111,117,114,99,101])=false:=h 6 (by decide)
    have e:(L==[115,116,114,105,110,103])=true:=he
    simp only [wordN,e,f0,f1,f2,f3,f4,f5,f6];rfl
  |8,_=>
    have f0:(L==[97,110,121])=false:=h 0 (by decide)
    have f1:(L==[98,111,111,108])=false:=h 1 (by decide)
    have f2:(L==[99,111,109,112,117,116,101,100])=false:=h 2 (by decide)
    have f3:(L==[102,97,108,115,101])=false:=h 3 (by decide)
    have f4:(L==[105,110,116])=false:=h 4 (by decide)
    have f5:(L==[110,111,110,101])=false:=h 5 (by decide)
    have f6:(L==[114,101,115,111,117,114,99,101])=false:=h 6 (by decide)
    have f7:(L==[115,116,114,105,110,103])=false:=h 7 (by decide)
    have e:(L==[116,114,117,101])=true:=he
    simp only [wordN,e,f0,f1,f2,f3,f4,f5,f6,f7];rfl
theorem NotYet.none {L:List UInt8} (h:NotYet L 9):0=wordN L:=by
  have f0:(L==[97,110,121])=false:=h 0 (by decide)
  have f1:(L==[98,111,111,108])=false:=h 1 (by decide)
  have f2:(L==[99,111,109,112,117,116,101,100])=false:=h 2 (by decide)
  have f3:(L==[102,97,108,115,101])=false:=h 3 (by decide)
  have f4:(L==[105,110,116])=false:=h 4 (by decide)
  have f5:(L==[110,111,110,101])=false:=h 5 (by decide)
  have f6:(L==[114,101,115,111,117,114,99,101])=false:=h 6 (by decide)
  have f7:(L==[115,116,114,105,110,103])=false:=h 7 (by decide)
  have f8:(L==[116,114,117,101])=false:=h 8 (by decide)
  simp only [wordN,f0,f1,f2,f3,f4,f5,f6,f7,f8];rfl
theorem index_0 (w:World):(Instr.index 209 (.agg #[.string {data:=#[97,110,121]},.string {data:=#[98,111,111,108]},.string {data:=#[99,111,109,112,117,116,101,100]},.string {data:=#[102,97,108,115,101]},.string {data:=#[105,110,116]},.string {data:=#[110,111,110,101]},.string {data:=#[114,101,115,111,117,114,99,101]},.string {data:=#[115,116,114,105,110,103]},.string {data:=#[116,114,117,101]}]) (.int .i64 0)).run Tryz.prog w= .ok (.string {data:=#[97,110,121]}) w:=by kernel_rfl
theorem index_1 (w:World):(Instr.index 209 (.agg #[.string {data:=#[97,110,121]},.string {data:=#[98,111,111,108]},.string {data:=#[99,111,109,112,117,116,101,100]},.string {data:=#[102,97,108,115,101]},.string {data:=#[105,110,116]},.string {data:=#[110,111,110,101]},.string {data:=#[114,101,115,111,117,114,99,101]},.string {data:=#[115,116,114,105,110,103]},.string {data:=#[116,114,117,101]}]) (.int .i64 1)).run Tryz.prog w= .ok (.string {data:=#[98,111,111,108]}) w:=by kernel_rfl
theorem index_2 (w:World):(Instr.index 209 (.agg #[.string {data:=#[97,110,121]},.string {data:=#[98,111,111,108]},.string {data:=#[99,111,109,112,117,116,101,100]},.string {data:=#[102,97,108,115,101]},.string {data:=#[105,110,116]},.string {data:=#[110,111,110,101]},.string {data:=#[114,101,115,111,117,114,99,101]},.string {data:=#[115,116,114,105,110,103]},.string {data:=#[116,114,117,101]}]) (.int .i64 2)).run Tryz.prog w= .ok (.string {data:=#[99,111,109,112,117,116,101,100]}) w:=by kernel_rfl
theorem index_3 (w:World):(Instr.index 209 (.agg #[.string {data:=#[97,110,121]},.string {data:=#[98,111,111,108]},.string {data:=#[99,111,109,112,117,116,101,100]},.string {data:=#[102,97,108,115,101]},.string {data:=#[105,110,116]},.string {data:=#[110,111,110,101]},.string {data:=#[114,101,115,111,117,114,99,101]},.string {data:=#[115,116,114,105,110,103]},.string {data:=#[116,114,117,101]}]) (.int .i64 3)).run Tryz.prog w= .ok (.string {data:=#[102,97,108,115,101]}) w:=by kernel_rfl
theorem index_4 (w:World):(Instr.index 209 (.agg #[.string {data:=#[97,110,121]},.string {data:=#[98,111,111,108]},.string {data:=#[99,111,109,112,117,116,101,100]},.string {data:=#[102,97,108,115,101]},.string {data:=#[105,110,116]},.string {data:=#[110,111,110,101]},.string {data:=#[114,101,115,111,117,114,99,101]},.string {data:=#[115,116,114,105,110,103]},.string {data:=#[116,114,117,101]}]) (.int .i64 4)).run Tryz.prog w= .ok (.string {data:=#[105,110,116]}) w:=by kernel_rfl
theorem index_5 (w:World):(Instr.index 209 (.agg #[.string {data:=#[97,110,121]},.string {data:=#[98,111,111,108]},.string {data:=#[99,111,109,112,117,116,101,100]},.string {data:=#[102,97,108,115,101]},.string {data:=#[105,110,116]},.string {data:=#[110,111,110,101]},.string {data:=#[114,101,115,111,117,114,99,101]},.string {data:=#[115,116,114,105,110,103]},.string {data:=#[116,114,117,101]}]) (.int .i64 5)).run Tryz.prog w= .ok (.string {data:=#[110,111,110,101]}) w:=by kernel_rfl
theorem index_6 (w:World):(Instr.index 209 (.agg #[.string {data:=#[97,110,121]},.string {data:=#[98,111,111,108]},.string {data:=#[99,111,109,112,117,116,101,100]},.string {data:=#[102,97,108,115,101]},.string {data:=#[105,110,116]},.string {data:=#[110,111,110,101]},.string {data:=#[114,101,115,111,117,114,99,101]},.string {data:=#[115,116,114,105,110,103]},.string {data:=#[116,114,117,101]}]) (.int .i64 6)).run Tryz.prog w= .ok (.string {data:=#[114,101,115,111,117,114,99,101]}) w:=by kernel_rfl
theorem index_7 (w:World):(Instr.index 209 (.agg #[.string {data:=#[97,110,121]},.string {data:=#[98,111,111,108]},.string {data:=#[99,111,109,112,117,116,101,100]},.string {data:=#[102,97,108,115,101]},.string {data:=#[105,110,116]},.string {data:=#[110,111,110,101]},.string {data:=#[114,101,115,111,117,114,99,101]},.string {data:=#[115,116,114,105,110,103]},.string {data:=#[116,114,117,101]}]) (.int .i64 7)).run Tryz.prog w= .ok (.string {data:=#[115,116,114,105,110,103]}) w:=by kernel_rfl
theorem index_8 (w:World):(Instr.index 209 (.agg #[.string {data:=#[97,110,121]},.string {data:=#[98,111,111,108]},.string {data:=#[99,111,109,112,117,116,101,100]},.string {data:=#[102,97,108,115,101]},.string {data:=#[105,110,116]},.string {data:=#[110,111,110,101]},.string {data:=#[114,101,115,111,117,114,99,101]},.string {data:=#[115,116,114,105,110,103]},.string {data:=#[116,114,117,101]}]) (.int .i64 8)).run Tryz.prog w= .ok (.string {data:=#[116,114,117,101]}) w:=by kernel_rfl
set_option maxHeartbeats 2000000 in
theorem word_any (s:ByteArray) (w:World) (hE:Env w):Calls Tryz.prog 137 #[.string s] w fun e w'=>e= .returned (.int .i64 (wordN s.toList))∧w=w':=by
  have c0:w.cell? ⟨4,0,none⟩=some (.string {data:=#[97,110,121]}):=hE.words 0 (by decide)
  have c1:w.cell? ⟨4,1,none⟩=some (.string {data:=#[98,111,111,108]}):=hE.words 1 (by decide)
  have c2:w.cell? ⟨4,2,none⟩=some (.string {data:=#[99,111,109,112,117,116,101,100]}):=hE.words 2 (by decide)
  have c3:w.cell? ⟨4,3,none⟩=some (.string {data:=#[102,97,108,115,101]}):=hE.words 3 (by decide)
  have c4:w.cell? ⟨4,4,none⟩=some (.string {data:=#[105,110,116]}):=hE.words 4 (by decide)
  have c5:w.cell? ⟨4,5,none⟩=some (.string {data:=#[110,111,110,101]}):=hE.words 5 (by decide)
  have c6:w.cell? ⟨4,6,none⟩=some (.string {data:=#[114,101,115,111,117,114,99,101]}):=hE.words 6 (by decide)
  have c7:w.cell? ⟨4,7,none⟩=some (.string {data:=#[115,116,114,105,110,103]}):=hE.words 7 (by decide)
  have c8:w.cell? ⟨4,8,none⟩=some (.string {data:=#[116,114,117,101]}):=hE.words 8 (by decide)
  clear hE
  go_enter Tryz.func137,Tryz.ntmps137
  go_wp2
  clear c0 c1 c2 c3 c4 c5 c6 c7 c8
  go_loop [6] (fun i=>∃k:Nat,k≤9∧i= .int .i64 k∧NotYet s.toList k) (fun i=>9-(intOf i).toNat)
  case atStart=>exact ⟨0,by omega,rfl,NotYet.first _⟩
  case round=>
    obtain ⟨k,hk,rfl,hN⟩:=hrel
    have H:=Lib.hid hN
    clear hN
    have x0:=fun w=>index_0 w
    have x1:=fun w=>index_1 w
    have x2:=fun w=>index_2 w
    have x3:=fun w=>index_3 w
    have x4:=fun w=>index_4 w
    have x5:=fun w=>index_5 w
    have x6:=fun w=>index_6 w
    have x7:=fun w=>index_7 w
    have x8:=fun w=>index_8 w
    obtain rfl|rfl|rfl|rfl|rfl|rfl|rfl|rfl|rfl|rfl:k=0∨k=1∨k=2∨k=3∨k=4∨k=5∨k=6∨k=7∨k=8∨k=9:=by omega
    all_goals
      go_wp2
      all_goals first
        | (go_round
           case rel=>exact ⟨_,by decide,by rfl,H.out.succ ‹_›⟩
           case measure=>simp [intOf])
        | (go_ret
           exact ⟨ret_int (H.out.word (by decide) ‹_›),rfl⟩)
        | (go_ret
           exact ⟨ret_int H.out.none,rfl⟩)
end Go.Proofs.YtkfihhagcimcmaaGreatDoor.Nm
namespace Go.Proofs.YtkfihhagcimcmaaGreatDoor.Nm
open Go.RowKit
set_option maxHeartbeats 400000 in
theorem letter_any (r:Int) (w:World):Calls Tryz.prog 135 #[.int .i32 r] w fun e w'=>e= .returned (.bool (letB r))∧w=w':=by
  by_cases h1:97≤r<;>by_cases h2:r≤122
  all_goals
    go_enter Tryz.func135,Tryz.ntmps135
    go_wp2
    go_ret
    exact ⟨ret_bool (by simp [letB];omega),rfl⟩
set_option maxHeartbeats 400000 in
theorem inner_any (r:Int) (w:World):Calls Tryz.prog 136 #[.int .i32 r] w fun e w'=>e= .returned (.bool (innB r))∧w=w':=by
  by_cases h1:48≤r<;>by_cases h2:r≤57<;>cases h3:(r==95)
  all_goals
    have h4:=Lib.hid h3
    go_enter Tryz.func136,Tryz.ntmps136
    go_wp2
    go_ret
    refine ⟨ret_bool ?_,rfl⟩
    have h5:=h4.out
    simp at h5
    unfold innB
    first
      |exact (decide_eq_true (by omega)).symm
      |exact (decide_eq_false (by omega)).symm
theorem letter_as (r:Int) (b:Bool) (w:World) (h:Hid (letB r=b)):Calls Tryz.prog 135 #[.int .i32 r] w fun e w'=>e= .returned (.bool b)∧w=w':=by
  rw [←h.out];exact letter_any r w
theorem inner_as (r:Int) (b:Bool) (w:World) (h:Hid (innB r=b)):Calls Tryz.prog 136 #[.int .i32 r] w fun e w'=>e= .returned (.bool b)∧w=w':=by
  rw [←h.out];exact inner_any r w
theorem word_in (s:ByteArray) (pos:Nat) (w:World) (hE:Hid (Env w)) (t:ByteArray):Calls Tryz.prog 137 #[.string t] (w.iter s pos) fun e w'=>e= .returned (.int .i64 (wordN t.toList))∧w.iter s pos=w':=
  word_any t _ (hE.out.below ((Below.refl _ _).alloc (Nat.le_refl _) _))
theorem rune_at (s:ByteArray) (pos:Nat) (hp:pos<s.size):∃(r:Int) (d:Nat),(Utf8.decode s pos).1=r∧(Utf8.decode s pos).2=d∧0≤r∧r≤2147483647∧1≤d∧
    ((letB r = false ∧ innB r = false ∧ letB (s[pos].toNat : Int) = false ∧ innB (s[pos].toNat : Int) = false) ∨
     (letB r=false∧innB r=true∧d=1∧letB (s[pos].toNat:Int)=false∧innB (s[pos].toNat:Int)=true)∨
     (letB r=true∧d=1∧letB (s[pos].toNat:Int)=true)):=by
  by_cases ha:s[pos].toNat<128
  · rw [decode_ascii s pos hp ha]
    refine ⟨(s[pos].toNat:Int),1,rfl,rfl,by omega,by omega,by omega,?_⟩
    cases e1:letB (s[pos].toNat:Int)
    · cases e2:innB (s[pos].toNat:Int)
      · exact .inl ⟨rfl,rfl,rfl,rfl⟩
      · exact .inr (.inl ⟨rfl,rfl,rfl,rfl,rfl⟩)
    · exact .inr (.inr ⟨rfl,rfl,rfl⟩)
  · have hh:=decode_high s pos hp (by omega)
    have n1:∀r:Int,128≤r→letB r=false∧innB r=false:=fun r hr=>⟨decide_eq_false (by omega),decide_eq_false (by omega)⟩
    refine ⟨_,_,rfl,rfl,by omega,by have:=decode_le s pos;omega,hh.2,.inl ⟨(n1 _ (by omega)).1,(n1 _ (by omega)).2,(n1 _ (by omega)).1,(n1 _ (by omega)).2⟩⟩
set_option maxHeartbeats 1000000 in
theorem right_any (s:ByteArray) (w:World) (hE:Env w) (hs:s.size≤maxLen):Calls Tryz.prog 91 #[.string s] w fun e w'=>e= .returned (.bool (rightL s.toList))∧Below w.heap.size w w':=by
  have HE:=Lib.hid hE
  clear hE
  unfold maxLen at hs
  by_cases h0:0<s.size
  · have hn:=list_ne s h0
    have hi:=list_isE s h0
    by_cases h16:16<s.size
    · go_enter Tryz.func91,Tryz.ntmps91
      go_wp2
      go_ret
      exact ⟨ret_bool (right_empty (.inr (by rw [←size_list];exact h16))).symm,Below.refl _ _⟩
    · go_enter Tryz.func91,Tryz.ntmps91
      go_wp2
      go_loopw [] (fun wr=>∃pos:Nat,pos≤s.size∧wr=w.iter s pos∧Good s pos) (fun wr=>s.size-wr.iterPos w.heap.size)
      case atStart=>exact ⟨0,by omega,rfl,Good.first s⟩
      case round=>
        obtain ⟨pos,hle,rfl,hG⟩:=hrel
        have G:=Lib.hid hG
        clear hG
        by_cases hp:pos<s.size
        · obtain ⟨r,d,er,ed,r0,r1,d1,hc⟩:=rune_at s pos hp
          have hnx:∀ty,(Instr.next (.pointer (some ⟨w.heap.size,0,none⟩)) true ty).run Tryz.prog (w.iter s pos)= .ok (.tuple #[.bool true,.int .i64 pos,.int .i32 r]) (w.iter s (pos+d)):=fun ty=>by
            rw [run_next_any w s pos ty hp,←er,←ed]
          clear er ed
          rcases hc with ⟨l1,l2,l3,l4⟩|⟨l1,l2,rfl,l3,l4⟩|⟨l1,rfl,l3⟩
          · have L1:=Lib.hid l1
            have L2:=Lib.hid l2
            have HB:=Lib.hid (right_bad hp l3 (.inr l4))
            clear l1 l2 l3 l4
            go_wp2_with (first
              |(go_at_call 135;refine (letter_as _ _ _ L1).mono ?_;rintro e w' ⟨rfl,rfl⟩)
              |(go_at_call 136;refine (inner_as _ _ _ L2).mono ?_;rintro e w' ⟨rfl,rfl⟩))
            all_goals
              go_ret
              exact ⟨ret_bool HB.out.symm,(Below.refl _ _).alloc (Nat.le_refl _) _⟩
          · have L1:=Lib.hid l1
            have L2:=Lib.hid l2
            have L3:=Lib.hid l3
            have L4:=Lib.hid l4
            clear l1 l2 l3 l4
            go_wp2_with (first
              |(go_at_call 135;refine (letter_as _ _ _ L1).mono ?_;rintro e w' ⟨rfl,rfl⟩)
              |(go_at_call 136;refine (inner_as _ _ _ L2).mono ?_;rintro e w' ⟨rfl,rfl⟩))
            all_goals first
              | (go_roundw
                 case rel=>exact ⟨pos+1,by omega,rfl,G.out.succ hp (.inr ⟨‹¬pos=0›,L4.out⟩)⟩
                 case measure=>simp;omega)
              | (go_ret
                 exact ⟨ret_bool (right_bad hp L3.out (.inl ‹pos=0›)).symm,(Below.refl _ _).alloc (Nat.le_refl _) _⟩)
          · have L1:=Lib.hid l1
            have L2:=Lib.hid (rfl:innB r=innB r)
            have HG:=Lib.hid (G.out.succ hp (.inl l3))
            clear l1 l3
            go_wp2_with (first
              |(go_at_call 135;refine (letter_as _ _ _ L1).mono ?_;rintro e w' ⟨rfl,rfl⟩)
              |(go_at_call 136;refine (inner_as _ _ _ L2).mono ?_;rintro e w' ⟨rfl,rfl⟩))
            go_roundw
            case rel=>exact ⟨pos+1,by omega,rfl,HG.out⟩
            case measure=>simp;omega
        · have hnx:∀ty,(Instr.next (.pointer (some ⟨w.heap.size,0,none⟩)) true ty).run Tryz.prog (w.iter s pos)=_:=fun ty=>run_next_end w s pos ty hp
          obtain rfl:pos=s.size:=by omega
          have HR:=Lib.hid (right_end h0 (by omega) G.out)
          go_wp2_with (go_at_call 137;refine (word_in _ _ _ HE _).mono ?_;rintro e w' ⟨rfl,rfl⟩)
          go_ret
          exact ⟨ret_bool HR.out.symm,(Below.refl _ _).alloc (Nat.le_refl _) _⟩
  · have hn:=list_nil s h0
    go_enter Tryz.func91,Tryz.ntmps91
    go_wp2
    go_ret
    exact ⟨ret_bool (right_empty (.inl (by rw [←size_list];omega))).symm,Below.refl _ _⟩
end Go.Proofs.YtkfihhagcimcmaaGreatDoor.Nm
namespace Go.Proofs.YtkfihhagcimcmaaGreatDoor.Nm
open Go.RowKit
theorem letB_mk {r:Int} (h:97≤r∧r≤122):letB r=true:=decide_eq_true h
theorem innB_mk {r:Int} (h:(48≤r∧r≤57)∨r=95):innB r=true:=decide_eq_true h
theorem letB_mkno {r:Int} (h:¬(97≤r∧r≤122)):letB r=false:=decide_eq_false h
theorem innB_mkno {r:Int} (h:¬((48≤r∧r≤57)∨r=95)):innB r=false:=decide_eq_false h
theorem rword_as (s:ByteArray) (v:Int) (w:World) (h:Hid (wordN s.toList=v)):Calls Tryz.prog 119 #[.string s] w fun e w'=>e= .returned (.int .i64 v)∧w=w':=by
  rw [←h.out];exact rword_any s w
theorem right_first {s:ByteArray} (h0:0<s.size) (h1:(s[0].toNat:Int)<97∨122<(s[0].toNat:Int)):rightL s.toList=false:=
  right_bad h0 (letB_mkno (by omega)) (.inl rfl)
theorem right_all {s:ByteArray} (h0:0<s.size) (h1:s.size≤16) (hg:Good s s.size) (hw:wordN s.toList=0):true=rightL s.toList:=by
  rw [right_end h0 h1 hg,hw];rfl
theorem byte_cases (c:Int):((97≤c∧c≤122)∧(c !=95)=true)∨((48≤c∧c≤57)∧(c !=95)=true)∨((57<c∧c<97)∧(c !=95)=false)∨((c<48∨(57<c∧c<97)∨122<c)∧(c !=95)=true):=by
  by_cases h:c=95
  · subst h;right;right;left;decide
  · have e:(c !=95)=true:=by simpa using h
    rw [e];simp;omega
set_option maxHeartbeats 2000000 in
theorem rright_any (s:ByteArray) (w:World) (hs:s.size≤maxLen):Calls Tryz.prog 72 #[.string s] w fun e w'=>e= .returned (.bool (rightL s.toList))∧w=w':=by
  unfold maxLen at hs
  by_cases h0:0<s.size
  · by_cases h16:16<s.size
    · go_enter Tryz.func72,Tryz.ntmps72
      go_wp2
      go_ret
      exact ⟨ret_bool (right_empty (.inr (by rw [←size_list];exact h16))).symm,rfl⟩
    · obtain ⟨v,hv⟩:∃v,wordN s.toList=v:=⟨_,rfl⟩
      have hv0:=wordN_nonneg s.toList
      rw [hv] at hv0
      have HV:=Lib.hid hv
      clear hv
      by_cases hp:0<v
      · go_enter Tryz.func72,Tryz.ntmps72
        go_wp2_with (go_at_call 119;refine (rword_as _ _ _ HV).mono ?_;rintro e w' ⟨rfl,rfl⟩)
        go_ret
        exact ⟨ret_bool (right_word (by rw [HV.out];exact hp)).symm,rfl⟩
      · have HW:=Lib.hid (show wordN s.toList=0 by rw [HV.out];omega)
        by_cases hf:97≤(s[0].toNat:Int)∧(s[0].toNat:Int)≤122
        · have G1:Good s 1:=(Good.first s).succ h0 (.inl (letB_mk hf))
          have HG1:=Lib.hid G1
          obtain ⟨f1,f2⟩:=hf
          clear G1
          go_enter Tryz.func72,Tryz.ntmps72
          go_wp2_with (go_at_call 119;refine (rword_as _ _ _ HV).mono ?_;rintro e w' ⟨rfl,rfl⟩)
          go_loop [3] (fun i=>∃k:Nat,1≤k∧k≤s.size∧i= .int .i64 k∧Good s k) (fun i=>s.size-(intOf i).toNat)
          case atStart=>exact ⟨1,by omega,by omega,rfl,HG1.out⟩
          case round=>
            obtain ⟨k,hk1,hk,rfl,hG⟩:=hrel
            have G:=Lib.hid hG
            clear hG
            by_cases hlt:k<s.size
            · obtain ⟨c,hc⟩:∃c:Int,(s[k].toNat:Int)=c:=⟨_,rfl⟩
              have HC:=Lib.hid hc
              rcases byte_cases c with ⟨g1,g2⟩|⟨g1,g2⟩|⟨g1,g2⟩|⟨g1,g2⟩
              · have HG:=Lib.hid (G.out.succ hlt (.inl (by rw [hc];exact letB_mk g1)))
                obtain ⟨g3,g4⟩:=g1
                go_wp2
                go_round
                case rel=>exact ⟨k+1,by omega,by omega,by go_num,HG.out⟩
                case measure=>simp [intOf];omega
              · have HG:=Lib.hid (G.out.succ hlt (.inr ⟨by omega,by rw [hc];exact innB_mk (.inl g1)⟩))
                obtain ⟨g3,g4⟩:=g1
                go_wp2
                go_round
                case rel=>exact ⟨k+1,by omega,by omega,by go_num,HG.out⟩
                case measure=>simp [intOf];omega
              · have HG:=Lib.hid (G.out.succ hlt (.inr ⟨by omega,by rw [hc];exact innB_mk (.inr (by simpa using g2))⟩))
                go_wp2
                go_round
                case rel=>exact ⟨k+1,by omega,by omega,by go_num,HG.out⟩
                case measure=>simp [intOf];omega
              · have hne:c≠95:=by simpa using g2
                have HB:=Lib.hid (right_bad hlt (by rw [hc];exact letB_mkno (by omega)) (.inr (by rw [hc];exact innB_mkno (by omega))))
                clear hne
                rcases g1 with g1|⟨g1,g1'⟩|g1
                · go_wp2
                  go_ret
                  exact ⟨ret_bool HB.out.symm,rfl⟩
                · have d1:decide (c≤57)=false:=decide_eq_false (by omega)
                  go_wp2
                  go_ret
                  exact ⟨ret_bool HB.out.symm,rfl⟩
                · have d1:decide (c≤57)=false:=decide_eq_false (by omega)
                  have d2:decide (c≤122)=false:=decide_eq_false (by omega)
                  go_wp2
                  go_ret
                  exact ⟨ret_bool HB.out.symm,rfl⟩
            · obtain rfl:k=s.size:=by omega
              go_wp2
              go_ret
              exact ⟨ret_bool (right_all h0 (by omega) G.out HW.out),rfl⟩
        · have HB:=Lib.hid (right_first h0 (by omega))
          have hf2:(s[0].toNat:Int)<97∨(¬(s[0].toNat:Int)<97∧122<(s[0].toNat:Int)):=by omega
          clear hf
          rcases hf2 with hf2|⟨hf2,hf3⟩
          all_goals
            go_enter Tryz.func72,Tryz.ntmps72
            go_wp2_with (go_at_call 119;refine (rword_as _ _ _ HV).mono ?_;rintro e w' ⟨rfl,rfl⟩)
            go_ret
            exact ⟨ret_bool HB.out.symm,rfl⟩
  · go_enter Tryz.func72,Tryz.ntmps72
    go_wp2
    go_ret
    exact ⟨ret_bool (right_empty (.inl (by rw [←size_list];omega))).symm,rfl⟩
end Go.Proofs.YtkfihhagcimcmaaGreatDoor.Nm
namespace Go.Proofs.YtkfihhagcimcmaaGreatDoor.Nm
open Go.RowKit
structure StrRow (w:World) (a:Option Addr) (len:Nat) (xs:List ByteArray):Prop where
  count:xs.length=len
  max:len≤140737488355328
  each:∀(i:Nat) (x:ByteArray),xs[i]?=some x→x.size≤140737488355328
  at_:0<len→∃b off,a=some ⟨b,off,none⟩∧b<w.heap.size∧∀(i:Nat) (x:ByteArray),xs[i]?=some x→w.cell? ⟨b,off+i,none⟩=some (.string x)
theorem StrRow.below {w w':World} {a:Option Addr} {len:Nat} {xs:List ByteArray} (h:StrRow w a len xs) (hb:Below w.heap.size w w'):StrRow w' a len xs:=by
  obtain ⟨h1,h2,h3,h4⟩:=h
  refine ⟨h1,h2,h3,fun h0=>?_⟩
  obtain ⟨b,off,e,hlt,hc⟩:=h4 h0
  exact ⟨b,off,e,Nat.lt_of_lt_of_le hlt hb.size,fun i x hx=>by rw [hb.cell (p:=⟨b,off+i,none⟩) hlt];exact hc i x hx⟩
theorem right_as (s:ByteArray) (b:Bool) (w:World) (hE:Env w) (hs:s.size≤140737488355328) (hb:Hid (rightL s.toList=b)):Calls Tryz.prog 91 #[.string s] w fun e w'=>e= .returned (.bool b)∧Below w.heap.size w w':=by
  rw [←hb.out];exact right_any s w hE (by unfold maxLen;omega)
theorem rright_as (s:ByteArray) (b:Bool) (w:World) (hs:s.size≤140737488355328) (hb:Hid (rightL s.toList=b)):Calls Tryz.prog 72 #[.string s] w fun e w'=>e= .returned (.bool b)∧w=w':=by
  rw [←hb.out];exact rright_any s w (by unfold maxLen;omega)
end Go.Proofs.YtkfihhagcimcmaaGreatDoor.Nm
namespace Go.Proofs.YtkfihhagcimcmaaGreatDoor.Nm
open Go.RowKit
def Ris (xs:List ByteArray) (n:Nat):Prop:=∀(k:Nat) (x:ByteArray),xs[k]?=some x→k<n→rightL x.toList=true∧∀(j:Nat) (y:ByteArray),j+1=k→xs[j]?=some y→Op.bytesLess y.toList x.toList=true
noncomputable def risB (xs:List ByteArray):Bool:= @decide (Ris xs xs.length) (Classical.propDecidable _)
theorem ris_yes {xs:List ByteArray} (h:Ris xs xs.length):true=risB xs:=(@decide_eq_true _ (Classical.propDecidable _) h).symm
theorem ris_no {xs:List ByteArray} (h:¬Ris xs xs.length):false=risB xs:=(@decide_eq_false _ (Classical.propDecidable _) h).symm
theorem lt_len {xs:List ByteArray} {k:Nat} {x:ByteArray} (h:xs[k]?=some x):k<xs.length:=(List.getElem?_eq_some_iff.1 h).1
theorem ris_bad_name {xs:List ByteArray} {k:Nat} {x:ByteArray} (hx:xs[k]?=some x) (hr:rightL x.toList=false):false=risB xs:=
  ris_no fun h=>by have:=(h k x hx (lt_len hx)).1;rw [hr] at this;exact absurd this (by decide)
theorem ris_bad_ord {xs:List ByteArray} {j:Nat} {x y:ByteArray} (hx:xs[j+1]?=some x) (hy:xs[j]?=some y) (hr:Op.bytesLess y.toList x.toList=false):false=risB xs:=
  ris_no fun h=>by have:=(h (j+1) x hx (lt_len hx)).2 j y rfl hy;rw [hr] at this;exact absurd this (by decide)
theorem Ris.zero (xs:List ByteArray):Ris xs 0:=fun _ _ _ h=>absurd h (by omega)
theorem Ris.one {xs:List ByteArray} {x:ByteArray} (hx:xs[0]?=some x) (hr:rightL x.toList=true):Ris xs 1:=fun k z hz hk=>by
  obtain rfl:k=0:=by omega
  rw [hx] at hz;cases hz
  exact ⟨hr,fun j y e _=>absurd e (by omega)⟩
theorem Ris.succ {xs:List ByteArray} {j:Nat} {x y:ByteArray} (h:Ris xs (j+1)) (hx:xs[j+1]?=some x) (hy:xs[j]?=some y) (hr:rightL x.toList=true) (ho:Op.bytesLess y.toList x.toList=true):Ris xs (j+1+1):=fun k z hz hk=>by
  by_cases e:k=j+1
  · subst e
    rw [hx] at hz;cases hz
    refine ⟨hr,fun i u ei hu=>?_⟩
    obtain rfl:i=j:=by omega
    rw [hy] at hu;cases hu
    exact ho
  · exact h k z hz (by omega)
theorem rright_same (s:ByteArray) (b:Bool) (w:World) (hs:s.size≤140737488355328) (hb:Hid (rightL s.toList=b)):Calls Tryz.prog 72 #[.string s] w fun e w'=>e= .returned (.bool b)∧w'=w:=
  (rright_as s b w hs hb).mono fun _ _ ⟨h,h'⟩=>⟨h,h'.symm⟩
set_option maxHeartbeats 4000000 in
theorem rrising_any (a:Option Addr) (len cap:Nat) (xs:List ByteArray) (w:World) (hS:StrRow w a len xs):Calls Tryz.prog 82 #[.slice a len cap] w fun e w'=>e= .returned (.bool (risB xs))∧Below w.heap.size w w':=by
  have hmax:=hS.max
  have HS:=Lib.hid hS
  clear hS
  by_cases h0:0<len
  · obtain ⟨b,off,rfl,hb,hc⟩:=HS.out.at_ h0
    have HC:=Lib.hid hc
    have HB:=Lib.hid hb
    clear hc hb
    go_enter Tryz.func82,Tryz.ntmps82
    go_wp2
    go_loopw [3] (fun i wr=>∃k:Nat,k≤len∧i= .int .i64 k∧Below w.heap.size w wr∧Ris xs k) (fun i _=>len-(intOf i).toNat)
    case atStart=>exact ⟨0,by omega,rfl,Below.refl _ _,Ris.zero xs⟩
    case round=>
      obtain ⟨k,hk,rfl,hBl,hR⟩:=hrel
      rename World=>wr
      have BL:=Lib.hid hBl
      have RI:=Lib.hid hR
      clear hBl hR
      by_cases hlt:k<len
      · obtain ⟨x,hx⟩:∃x,xs[k]?=some x:=⟨xs[k]'(by rw [HS.out.count];exact hlt),List.getElem?_eq_getElem _⟩
        have HX:=Lib.hid hx
        have hcell:wr.cell? ⟨b,off+k,none⟩=some (.string x):=by rw [BL.out.cell (p:=⟨b,off+k,none⟩) HB.out];exact HC.out k x hx
        have hsz:=HS.out.each k x hx
        clear hx
        cases hr:rightL x.toList
        · have HR:=Lib.hid hr
          clear hr
          go_wp2
          go_quiet ((go_at_call 72;exact Calls.quiet_of_same (rright_same _ _ _ hsz HR)))
          go_wp2
          go_ret
          exact ⟨ret_bool (ris_bad_name HX.out HR.out),below_drewN BL.out _⟩
        · have HR:=Lib.hid hr
          clear hr
          by_cases hk0:0<k
          · obtain ⟨j,rfl⟩:∃j,k=j+1:=⟨k-1,by omega⟩
            obtain ⟨y,hy⟩:∃y,xs[j]?=some y:=⟨xs[j]'(by rw [HS.out.count];omega),List.getElem?_eq_getElem _⟩
            have HY:=Lib.hid hy
            have hce:wr.cell? ⟨b,off+j,none⟩=some (.string y):=by rw [BL.out.cell (p:=⟨b,off+j,none⟩) HB.out];exact HC.out j y hy
            clear hy
            cases ho:Op.bytesLess y.toList x.toList
            all_goals
              have HO:=Lib.hid ho
              go_wp2
              go_quiet ((go_at_call 72;exact Calls.quiet_of_same (rright_same _ _ _ hsz HR)))
              go_wp2
            · go_ret
              exact ⟨ret_bool (ris_bad_ord HX.out HY.out HO.out),below_drewN BL.out _⟩
            · go_roundw
              case rel=>exact ⟨j+1+1,by omega,by go_num,below_drewN BL.out _,RI.out.succ HX.out HY.out HR.out HO.out⟩
              case measure=>simp [intOf];omega
          · obtain rfl:k=0:=by omega
            have hcell0:wr.cell? ⟨b,off,none⟩=some (.string x):=hcell
            clear hcell
            go_wp2
            go_quiet ((go_at_call 72;exact Calls.quiet_of_same (rright_same _ _ _ hsz HR)))
            go_wp2
            go_roundw
            case rel=>exact ⟨1,by omega,by go_num,below_drewN BL.out _,Ris.one HX.out HR.out⟩
            case measure=>simp [intOf];omega
      · obtain rfl:k=len:=by omega
        have HL:=Lib.hid HS.out.count
        go_wp2
        go_ret
        exact ⟨ret_bool (ris_yes (by rw [HL.out];exact RI.out)),BL.out⟩
  · obtain rfl:len=0:=by omega
    have HL:=Lib.hid HS.out.count
    go_enter Tryz.func82,Tryz.ntmps82
    go_wp2
    go_loopw [3] (fun i wr=>i= .int .i64 0∧Below w.heap.size w wr) (fun _ _=>0)
    case atStart=>exact ⟨rfl,Below.refl _ _⟩
    case round=>
      obtain ⟨rfl,hBl⟩:=hrel
      have BL:=Lib.hid hBl
      clear hBl
      go_wp2
      go_ret
      exact ⟨ret_bool (ris_yes (by rw [HL.out];exact Ris.zero xs)),BL.out⟩
end Go.Proofs.YtkfihhagcimcmaaGreatDoor.Nm
namespace Go.Proofs.YtkfihhagcimcmaaGreatDoor.Nm
open Go.RowKit
def pathB (xs:List ByteArray):Bool:=decide (1≤xs.length)&&decide (xs.length≤16)&&xs.all fun x=>rightL x.toList
def upR (xs:List ByteArray) (k:Nat):Prop:=∀(j:Nat) (x:ByteArray),xs[j]?=some x→j<k→rightL x.toList=true
theorem upR_zero (xs:List ByteArray):upR xs 0:=fun _ _ _ h=>absurd h (by omega)
theorem upR_succ {xs:List ByteArray} {k:Nat} {x:ByteArray} (h:upR xs k) (hx:xs[k]?=some x) (hr:rightL x.toList=true):upR xs (k+1):=fun j y hy hj=>by
  by_cases e:j=k
  · subst e;rw [hx] at hy;cases hy;exact hr
  · exact h j y hy (by omega)
theorem path_bad {xs:List ByteArray} {k:Nat} {x:ByteArray} (hx:xs[k]?=some x) (hr:rightL x.toList=false):pathB xs=false:=by
  have:(xs.all fun x=>rightL x.toList)=false:=by
    rw [List.all_eq_false]
    exact ⟨x,List.mem_of_getElem? hx,by simp [hr]⟩
  unfold pathB;rw [this];simp
theorem path_end {xs:List ByteArray} (h:upR xs xs.length):pathB xs=(decide (1≤xs.length)&&decide (xs.length≤16)):=by
  have:(xs.all fun x=>rightL x.toList)=true:=by
    rw [List.all_eq_true]
    intro x hx
    obtain ⟨k,hk,rfl⟩:=List.getElem_of_mem hx
    exact h k _ (List.getElem?_eq_getElem hk) hk
  unfold pathB;rw [this];simp
theorem path_size {xs:List ByteArray} (h:¬(1≤xs.length∧xs.length≤16)):pathB xs=false:=by
  have:(decide (1≤xs.length)&&decide (xs.length≤16))=false:=by rw [Bool.and_eq_false_iff];simp only [decide_eq_false_iff_not];omega
  unfold pathB;rw [this];rfl
theorem path_yes {xs:List ByteArray} (h:upR xs xs.length) (h1:1≤xs.length) (h2:xs.length≤16):true=pathB xs:=by
  rw [path_end h];simp;omega
set_option maxHeartbeats 2000000 in
theorem rpath_any (a:Option Addr) (len cap:Nat) (xs:List ByteArray) (w:World) (hS:StrRow w a len xs):Calls Tryz.prog 104 #[.slice a len cap] w fun e w'=>e= .returned (.bool (pathB xs))∧w=w':=by
  have hmax:=hS.max
  have HS:=Lib.hid hS
  clear hS
  by_cases h0:0<len
  · obtain ⟨b,off,rfl,hb,hc⟩:=HS.out.at_ h0
    have HC:=Lib.hid hc
    clear hc hb
    go_enter Tryz.func104,Tryz.ntmps104
    go_wp2
    go_loop [3] (fun i=>∃k:Nat,k≤len∧i= .int .i64 k∧upR xs k) (fun i=>len-(intOf i).toNat)
    case atStart=>exact ⟨0,by omega,rfl,upR_zero xs⟩
    case round=>
      obtain ⟨k,hk,rfl,hU⟩:=hrel
      have U:=Lib.hid hU
      clear hU
      by_cases hlt:k<len
      · obtain ⟨x,hx⟩:∃x,xs[k]?=some x:=⟨xs[k]'(by rw [HS.out.count];exact hlt),List.getElem?_eq_getElem _⟩
        have HX:=Lib.hid hx
        have hcell:w.cell? ⟨b,off+k,none⟩=some (.string x):=HC.out k x hx
        have hsz:=HS.out.each k x hx
        clear hx
        cases hr:rightL x.toList
        all_goals
          have HR:=Lib.hid hr
          clear hr
          go_wp2_with (go_at_call 72;refine (rright_as _ _ _ hsz HR).mono ?_;rintro e w' ⟨rfl,rfl⟩)
        · go_ret
          exact ⟨ret_bool (path_bad HX.out HR.out).symm,rfl⟩
        · go_round
          case rel=>exact ⟨k+1,by omega,by go_num,upR_succ U.out HX.out HR.out⟩
          case measure=>simp [intOf];omega
      · obtain rfl:k=len:=by omega
        have HL:=Lib.hid HS.out.count
        by_cases h16:16<k
        · have HP:=Lib.hid (path_size (xs:=xs) (by rw [HL.out];omega))
          go_wp2
          go_ret
          exact ⟨ret_bool ((decide_eq_false (by omega)).trans HP.out.symm),rfl⟩
        · have HP:=Lib.hid (path_yes (xs:=xs) (by rw [HL.out];exact U.out) (by rw [HL.out];omega) (by rw [HL.out];omega))
          go_wp2
          go_ret
          exact ⟨ret_bool ((decide_eq_true (by omega)).trans HP.out),rfl⟩
  · have HP:=Lib.hid (path_size (xs:=xs) (by rw [HS.out.count];omega))
    obtain rfl:len=0:=by omega
    go_enter Tryz.func104,Tryz.ntmps104
    go_wp2
    go_loop [3] (fun i=>i= .int .i64 0) (fun _=>0)
    case atStart=>rfl
    case round=>
      obtain rfl:=hrel
      go_wp2
      go_ret
      exact ⟨ret_bool HP.out.symm,rfl⟩
def bl (xs:List ByteArray):List (List UInt8):=xs.map (·.data.toList)
def sameB (xs ys:List ByteArray):Bool:=decide (bl xs=bl ys)
theorem same_len {xs ys:List ByteArray} (h:xs.length≠ys.length):false=sameB xs ys:=
  (decide_eq_false fun e=>h (by have:=congrArg List.length e;simpa [bl] using this)).symm
def Sam (xs ys:List ByteArray) (k:Nat):Prop:=∀(j:Nat) (x y:ByteArray),xs[j]?=some x→ys[j]?=some y→j<k→x.toList=y.toList
theorem Sam.zero (xs ys:List ByteArray):Sam xs ys 0:=fun _ _ _ _ _ h=>absurd h (by omega)
theorem Sam.succ {xs ys:List ByteArray} {k:Nat} {x y:ByteArray} (h:Sam xs ys k) (hx:xs[k]?=some x) (hy:ys[k]?=some y) (e:(x.toList==y.toList)=true):Sam xs ys (k+1):=fun j u v hu hv hj=>by
  by_cases ej:j=k
  · subst ej;rw [hx] at hu;rw [hy] at hv;cases hu;cases hv;simpa using e
  · exact h j u v hu hv (by omega)
theorem same_bad {xs ys:List ByteArray} {k:Nat} {x y:ByteArray} (hx:xs[k]?=some x) (hy:ys[k]?=some y) (e:(x.toList==y.toList)=false):false=sameB xs ys:=
  (decide_eq_false fun q=>by
    have h1:(bl xs)[k]?=some x.data.toList:=by simp [bl,hx]
    have h2:(bl ys)[k]?=some y.data.toList:=by simp [bl,hy]
    rw [q,h2] at h1
    rw [Lib.toList_data,Lib.toList_data] at e
    have:=Option.some.inj h1
    rw [this] at e
    simp at e).symm
theorem same_end {xs ys:List ByteArray} (hl:xs.length=ys.length) (h:Sam xs ys xs.length):true=sameB xs ys:=
  (decide_eq_true (by
    unfold bl
    apply List.ext_getElem (by simpa using hl)
    intro i h1 h2
    simp only [List.length_map] at h1 h2
    simp only [List.getElem_map]
    have:=h i _ _ (List.getElem?_eq_getElem h1) (List.getElem?_eq_getElem h2) h1
    rwa [Lib.toList_data,Lib.toList_data] at this)).symm
set_option maxHeartbeats 2000000 in
theorem same_any (a a':Option Addr) (len cap len' cap':Nat) (xs ys:List ByteArray) (w:World) (hS:StrRow w a len xs) (hT:StrRow w a' len' ys):Calls Tryz.prog 62 #[.slice a len cap,.slice a' len' cap'] w fun e w'=>e= .returned (.bool (sameB xs ys))∧Below w.heap.size w w':=by
  have hmax:=hS.max
  have HS:=Lib.hid hS
  have HT:=Lib.hid hT
  clear hS hT
  by_cases hl:len=len'
  · subst hl
    have HL:=Lib.hid (show xs.length=ys.length by rw [HS.out.count,HT.out.count])
    have HC:=Lib.hid HS.out.count
    by_cases h0:0<len
    · obtain ⟨b,off,rfl,hb,hc⟩:=HS.out.at_ h0
      obtain ⟨b',off',rfl,hb',hc'⟩:=HT.out.at_ h0
      have C1:=Lib.hid hc
      have C2:=Lib.hid hc'
      have B1:=Lib.hid hb
      have B2:=Lib.hid hb'
      clear hc hc' hb hb'
      go_enter Tryz.func62,Tryz.ntmps62
      go_wp2
      go_loopw [5] (fun i wr=>∃k:Nat,k≤len∧i= .int .i64 k∧Below w.heap.size w wr∧Sam xs ys k) (fun i _=>len-(intOf i).toNat)
      case atStart=>exact ⟨0,by omega,rfl,Below.refl _ _,Sam.zero xs ys⟩
      case round=>
        obtain ⟨k,hk,rfl,hBl,hR⟩:=hrel
        rename World=>wr
        have BL:=Lib.hid hBl
        have RI:=Lib.hid hR
        clear hBl hR
        by_cases hlt:k<len
        · obtain ⟨x,hx⟩:∃x,xs[k]?=some x:=⟨xs[k]'(by rw [HS.out.count];exact hlt),List.getElem?_eq_getElem _⟩
          obtain ⟨y,hy⟩:∃y,ys[k]?=some y:=⟨ys[k]'(by rw [HT.out.count];exact hlt),List.getElem?_eq_getElem _⟩
          have HX:=Lib.hid hx
          have HY:=Lib.hid hy
          have hcell:wr.cell? ⟨b,off+k,none⟩=some (.string x):=by rw [BL.out.cell (p:=⟨b,off+k,none⟩) B1.out];exact C1.out k x hx
          have hcell':wr.cell? ⟨b',off'+k,none⟩=some (.string y):=by rw [BL.out.cell (p:=⟨b',off'+k,none⟩) B2.out];exact C2.out k y hy
          clear hx hy
          cases he:(x.toList==y.toList)
          all_goals
            have HE:=Lib.hid he
            go_wp2
            go_quiet (fail)
            go_wp2
          · go_ret
            exact ⟨ret_bool (same_bad HX.out HY.out HE.out),below_drewN BL.out _⟩
          · go_roundw
            case rel=>exact ⟨k+1,by omega,by go_num,below_drewN BL.out _,RI.out.succ HX.out HY.out HE.out⟩
            case measure=>simp [intOf];omega
        · obtain rfl:k=len:=by omega
          go_wp2
          go_ret
          exact ⟨ret_bool (same_end HL.out (by rw [HC.out];exact RI.out)),BL.out⟩
    · obtain rfl:len=0:=by omega
      go_enter Tryz.func62,Tryz.ntmps62
      go_wp2
      go_loopw [5] (fun i wr=>i= .int .i64 0∧Below w.heap.size w wr) (fun _ _=>0)
      case atStart=>exact ⟨rfl,Below.refl _ _⟩
      case round=>
        obtain ⟨rfl,hBl⟩:=hrel
        have BL:=Lib.hid hBl
        clear hBl
        go_wp2
        go_ret
        exact ⟨ret_bool (same_end HL.out (by rw [HC.out];exact Sam.zero xs ys)),BL.out⟩
  · have HP:=Lib.hid (same_len (xs:=xs) (ys:=ys) (by rw [HS.out.count,HT.out.count];exact hl))
    have hl2:((len:Int) !=(len':Int))=true:=by simp;omega
    clear hl
    go_enter Tryz.func62,Tryz.ntmps62
    go_wp2
    go_ret
    exact ⟨ret_bool HP.out,Below.refl _ _⟩
end Go.Proofs.YtkfihhagcimcmaaGreatDoor.Nm
