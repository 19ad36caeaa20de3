/- Qk -/
import Derived.Test.YtkfihhagcimcmaaGreatDoorChecked
import Derived.Test.YtkfihhagcimcmaaGreatDoorProg
import Derived.Test.YtkfihhagcimcmaaGreatDoorY1
import Derived.Test.YtkfihhagcimcmaaGreatDoorYbk
namespace Go.Proofs.YtkfihhagcimcmaaGreatDoor.Ps
open Go.RowKit
open Lx (Tok bs bl_alloc)
structure SF (B:Nat) (l:BL) (w:World) (v:Value) (L:List ByteArray):Prop where
 own:w.ownsRow B 9 1 v L.length (L.map Value.string)
 far:∀b∈l.map Prod.fst,v.ownBlock≠some b
section
variable {B:Nat} {l:BL} {w w':World} {v:Value} {L:List ByteArray}
theorem SF.call (h:SF B l w v L) (hb:Below w.heap.size w w'):SF B l w' v L:=⟨h.own.kept (grown_below hb) (by cases v.ownBlock<;>simp),h.far⟩
theorem SF.new_ (h:SF B l w v L) (cs:Array Value) (t:TypeId) {n:Nat} (hn:w.heap.size=n):SF B ((n,cs,t)::l) (w.alloc (.cells cs t)) v L:=by
 subst hn
 exact ⟨h.own.alloc _,fun b hb e=>by
  rw [List.map_cons] at hb
  rcases List.mem_cons.1 hb with rfl|hb
  ·have:=own_lt h.own e;simp only at this;omega
  ·exact h.far b hb e⟩
theorem SF.put (h:SF B l w v L) {i b:Nat} {cs cs':Array Value} {t:TypeId} (hi:l[i]?=some (b,cs,t)) (g:w.grownBy w' (some b)):SF B (l.set i (b,cs',t)) w' v L:=
 ⟨owns_grown h.own g (h.far b (List.mem_map.2 ⟨_,List.mem_of_getElem? hi,rfl⟩)),by rw [set_fst hi];exact h.far⟩
theorem SF.xb {a:Option Addr} {n c:Nat} (h:SF B l w (.slice a n c) L) (hm:n≤1000) (hn:L.length=n) (hz:∀x∈L,x.size≤4096):XB (fun b=>B≤b) w ⟨9,0,⟨#[]⟩,a,n,c,none,0,0,false,none,0,0⟩ (.mk 9 0 ⟨#[]⟩ L [] false []):=by
 have ho:=h.own
 rw [hn] at ho
 obtain ⟨a2,c2,e2,hS2⟩:=row_own ho (by omega) (fun x hx=>by have:=hz x hx;omega)
 injection e2 with e3 _ e4
 subst e3 e4
 exact XB.leaf 9 0 _ (by decide) hS2 fun _ b off e=>by
  subst e
  exact own_base h.own b (by simp [Value.ownBlock])
end
theorem path_rel {s S:St} {M:List Tok} {R:Res (List ByteArray)} {acc:List ByteArray} (h:Sv s S M) (hok:OkL s.T) (hb:isB [46] M=true) (hP:PathAt s.E R acc M) (h1:1≤acc.length) (h16:acc.length≤16) (b:Bool) (hbb:acc.length=16↔b=true):
  (∃T,Sv s (if b=true then S.next.named.1.fail S.next.pk 4 else S.next.named.1) T∧T.length<M.length∧PathAt s.E R (acc++[S.next.named.2]) T∧acc.length+1≤16∧S.next.named.2.size≤4096)∨∃a x,Dd s (if b=true then S.next.named.1.fail S.next.pk 4 else S.next.named.1) a x∧R= .bad a x:=by
 have hN:=(hP.go).2.1 (by omega) hb
 obtain ⟨t,M0,rfl,-,-⟩:=isB_cons hb
 have hS3:=h.next (t:=t) (N:=M0) rfl
 have hN:NameAt s.E R acc M0:=hN
 have hokM:OkL M0:=fun t ht=>hok t (by have h2:=hS3.L;rw [←h2] at ht;have h3:=List.mem_of_mem_drop ht;rw [hS3.kin.T] at h3;exact h3)
 by_cases hn:nameB M0=true
 ·obtain ⟨h4,hw⟩:=hS3.named_ok hn
  have hnm:nameM s.E M0= .ok S.next.named.2 M0:=by unfold nameM;rw [if_pos hn,hw]
  cases b with
  |true=>
   have hd:=h4.fail S.next.pk 4 (by decide)
   have hR:=hN.many hnm (hbb.2 rfl)
   rw [if_pos rfl]
   rw [hS3.pk] at hd⊢
   exact .inr ⟨_,_,hd,hR⟩
  |false=>
   have hlt:¬acc.length=16:=fun e=>by have:=hbb.1 e;cases this
   obtain ⟨-,t1,T,rfl,hP2⟩:=hN.step hnm hlt
   rw [if_neg (by decide)]
   exact .inl ⟨T,h4,by simp;omega,hP2,by omega,nameM_size hokM hnm⟩
 ·have hn':nameB M0=false:=by simpa using hn
  obtain ⟨h4,-⟩:=hS3.named_no hn'
  have hR:=hN.bad (a:=(pk s.E M0).at_) (x:=21) (by unfold nameM;rw [if_neg hn])
  refine .inr ⟨_,_,?_,hR⟩
  cases b with
  |true=>rw [if_pos rfl,h4.fail];exact h4
  |false=>rw [if_neg (by decide)];exact h4
set_option maxRecDepth 100000 in
set_option maxHeartbeats 16000000 in
theorem spath_any (w:World) (s:St) (h:SW w s) (h0:s.err=0∧s.bad=0) (hi:s.i≤s.T.length) (hnm:nameB s.L=true):Calls Tryz.prog 168 #[s.v] w (SRes (VX w.heap.size) w s ((pathF s.E (s.L.length+1) [] s.L).bind fun p M=> .ok (.mk 9 0 ⟨#[]⟩ p [] false []) M)):=by
 obtain ⟨R,hR⟩:∃R,pathF s.E (s.L.length+1) [] s.L=R:=⟨_,rfl⟩
 rw [hR]
 have hPA:PathAt s.E R [] s.L:=⟨_,by omega,hR⟩
 have H:=Lib.hid h
 obtain ⟨t0,M0,hL0,-,-⟩:=nameB_cons hnm
 obtain ⟨hS1,hw1⟩:=(Sv.refl h0 hi).named_ok hnm
 have hok1:OkL s.L:=fun t ht=>h.ok t (List.mem_of_mem_drop ht)
 obtain ⟨-,t1,M1,hL1,hPA1⟩:=(hPA.go.1 rfl).step (M':=s.L) (s:=bs (Ps.pk s.E s.L).x.t) (by unfold nameM;rw [if_pos hnm]) (by decide)
 rw [hL1] at hS1
 have hsz0:(bs (Ps.pk s.E s.L).x.t).size≤4096:=by rw [bs_size];exact (pk_ok hok1 s.E).1
 obtain ⟨wd,hwd⟩:∃wd,s.named.2=wd:=⟨_,rfl⟩
 obtain ⟨a1,cap1,T1,i1,E1,o1,b1,x1,hn⟩:=s.named.1.get
 rw [hn] at hS1
 rw [hw1] at hwd
 rw [hwd] at hPA1 hsz0
 have HS1:Hid (Sv s ⟨a1,cap1,T1,i1,E1,o1,b1,x1⟩ M1):=Lib.hid hS1
 have HP1:=Lib.hid hPA1
 have HZ1:=Lib.hid hsz0
 obtain ⟨ti,hi',hz0,hz1,hz2⟩:=info_parts info9
 have HI:=Lib.hid hi'
 have HI0:=Lib.hid hz0
 have HI1:=Lib.hid hz1
 have HI2:=Lib.hid hz2
 obtain ⟨a0,cap0,T0,i0,E0,o0,b0,x0,hs0⟩:=s.get
 have HNM:∀W,Hid (Below w.heap.size w W)→Hid (Calls Tryz.prog 57 #[.agg #[.slice a0 T0.length cap0,.int .i64 (i0:Int),.int .i64 E0,.int .i64 o0,.int .i64 b0,.int .i64 x0]] W (Ans (.tuple #[.agg #[.slice a1 T1.length cap1,.int .i64 (i1:Int),.int .i64 E1,.int .i64 o1,.int .i64 b1,.int .i64 x1],.string wd]) W)):=fun W hW=>Lib.hid (by
  have:=snamed_any W s (H.out.below hW.out)
  rw [hn,hw1,hwd,show s.v= .agg #[.slice a0 T0.length cap0,.int .i64 (i0:Int),.int .i64 E0,.int .i64 o0,.int .i64 b0,.int .i64 x0] by rw [hs0];rfl] at this
  exact this)
 rw [show s.v= .agg #[.slice a0 T0.length cap0,.int .i64 (i0:Int),.int .i64 E0,.int .i64 o0,.int .i64 b0,.int .i64 x0] by rw [hs0];rfl]
 have HF:=Lib.hid (Fr.start3 w #[.slice a0 T0.length cap0,.int .i64 (i0:Int),.int .i64 E0,.int .i64 o0,.int .i64 b0,.int .i64 x0] #[.slice none 0 0,.int .i64 0,.int .i64 0,.int .i64 0,.int .i64 0,.int .i64 0] #[.int .i64 0,.int .i64 0,.string ⟨#[]⟩,.slice none 0 0,.slice none 0 0,.bool false,.slice none 0 0] 95 95 35)
 have f:=HF.out.facts;dsimp only [Fs,Nes,List.map] at f
 clear hi' hz0 hz1 hz2 hR hPA hnm hL0 hS1 hw1 hok1 hL1 hPA1 hsz0 hn hwd h hs0 h0 hi
 go_enter Tryz.func168,Tryz.ntmps168
 go_wp2_with (go_at_call 57;refine (HNM _ (Lib.hid HF.out.bl)).out.mono ?_;rintro e w3 ⟨rfl,hb⟩;replace HF:=Lib.hid (HF.out.call hb);clear f;have f1:=HF.out.facts;dsimp only [Fs,Nes,List.map] at f1;replace HF:=Lib.hid (by have t:=HF.out.put6 2 rfl (.slice a1 T1.length cap1) (.int .i64 (i1:Int)) (.int .i64 E1) (.int .i64 o1) (.int .i64 b1) (.int .i64 x1);simp only [List.set_cons_succ,List.set_cons_zero] at t;exact t);have HO:=Lib.hid (World.ownsRow_lit (base:=w.heap.size) (e:=9) (size:=1) (put6 w3 w.heap.size (.slice a1 T1.length cap1) (.int .i64 (i1:Int)) (.int .i64 E1) (.int .i64 o1) (.int .i64 b1) (.int .i64 x1)) #[.string wd] 1 HF.out.size (by decide) rfl);have hfr:=HF.out.fresh (Nat.le_refl _);rw [put6_size] at HO hfr;replace HF:=Lib.hid (HF.out.old (.cells #[.string wd] 9));have hsz3:((put6 w3 w.heap.size (.slice a1 T1.length cap1) (.int .i64 (i1:Int)) (.int .i64 E1) (.int .i64 o1) (.int .i64 b1) (.int .i64 x1)).alloc (.cells #[.string wd] 9)).heap.size=w3.heap.size+1:=(by rw [World.size_alloc,put6_size]);have HP:=Lib.hid (SF.new_ (L:=[wd]) ⟨HO.out,fun b hm e=>hfr (by have e2:w3.heap.size=b:=(by simpa [Value.ownBlock] using e);rw [e2];exact hm)⟩ #[.int .i64 9,.int .i64 0,.string ⟨#[]⟩,.slice (some ⟨w3.heap.size,0,none⟩) 1 1,.slice none 0 0,.bool false,.slice none 0 0] 35 hsz3);replace HF:=Lib.hid (HF.out.new_ #[.int .i64 9,.int .i64 0,.string ⟨#[]⟩,.slice (some ⟨w3.heap.size,0,none⟩) 1 1,.slice none 0 0,.bool false,.slice none 0 0] 35 (n:=w3.heap.size+1) (hsz3));clear hb hfr HO hsz3)
 clear f1
 go_loopw [] (fun wr=>∃(a2:Option Addr) (cap2:Nat) (T2:List Tok) (i2:Nat) (E2 o2 b2 x2:Int) (pa:Option Addr) (pl pc:Nat),Hid (Fr w wr [(w3.heap.size+1,#[.int .i64 9,.int .i64 0,.string ⟨#[]⟩,.slice pa pl pc,.slice none 0 0,.bool false,.slice none 0 0],35),(w.heap.size+2,#[.int .i64 0,.int .i64 0,.string ⟨#[]⟩,.slice none 0 0,.slice none 0 0,.bool false,.slice none 0 0],35),(w.heap.size+1,#[.slice none 0 0,.int .i64 0,.int .i64 0,.int .i64 0,.int .i64 0,.int .i64 0],95),(w.heap.size,#[.slice a2 T2.length cap2,.int .i64 (i2:Int),.int .i64 E2,.int .i64 o2,.int .i64 b2,.int .i64 x2],95)])∧((∃(acc:List ByteArray) (M:List Tok),1≤pl∧pl≤16∧Hid (acc.length=pl)∧Hid (SF w.heap.size [(w3.heap.size+1,#[.int .i64 9,.int .i64 0,.string ⟨#[]⟩,.slice pa pl pc,.slice none 0 0,.bool false,.slice none 0 0],35),(w.heap.size+2,#[.int .i64 0,.int .i64 0,.string ⟨#[]⟩,.slice none 0 0,.slice none 0 0,.bool false,.slice none 0 0],35),(w.heap.size+1,#[.slice none 0 0,.int .i64 0,.int .i64 0,.int .i64 0,.int .i64 0,.int .i64 0],95),(w.heap.size,#[.slice a2 T2.length cap2,.int .i64 (i2:Int),.int .i64 E2,.int .i64 o2,.int .i64 b2,.int .i64 x2],95)] wr (.slice pa pl pc) acc)∧Hid (Sv s ⟨a2,cap2,T2,i2,E2,o2,b2,x2⟩ M)∧Hid (PathAt s.E R acc M)∧Hid (∀x∈acc,x.size≤4096))∨(∃a x,Hid (Dd s ⟨a2,cap2,T2,i2,E2,o2,b2,x2⟩ a x)∧Hid (R= .bad a x)))) (fun wr=>leftS wr w.heap.size)
 case atStart=>exact ⟨_,_,_,_,_,_,_,_,_,_,_,HF,.inl ⟨[wd],M1,by decide,by decide,Lib.hid rfl,HP,HS1,HP1,Lib.hid (fun x hx=>by rw [List.mem_singleton.1 hx];exact HZ1.out)⟩⟩
 case round=>
  clear HF HP
  obtain ⟨a2,cap2,T2,i2,E2,o2,b2,x2,pa,pl,pc,HF,hh⟩:=hrel
  rename World=>wr
  rcases hh with ⟨acc,M,hl1,hl16,hal,HP,hS,hPA,hz⟩|⟨a,x,hD,hRR⟩
  ·have HSW:Hid (∀{W:World},Below w.heap.size w W→SW W ⟨a2,cap2,T2,i2,E2,o2,b2,x2⟩):=Lib.hid fun hW=>H.out.kin hW hS.out.kin
   cases hb46:isB [46] M with
   |false=>
    have HIS:Hid (St.is ⟨a2,cap2,T2,i2,E2,o2,b2,x2⟩ (ByteArray.mk #[46]).toList=false):=Lib.hid (by rw [Lib.toList_data,hS.out.is];exact hb46)
    have HRR:Hid ((R.bind fun p M=>(Res.ok (Ex.mk 9 0 ⟨#[]⟩ p [] false []) M:Res Ex))= .ok (Ex.mk 9 0 ⟨#[]⟩ acc [] false []) M):=Lib.hid (by rw [(hPA.out.go).2.2 (by have:=hal.out;omega) hb46];rfl)
    clear hb46
    have f:=HF.out.facts
    dsimp only [Fs,Nes,List.map] at f
    go_wp2_with (go_at_call 99;refine (sis_as _ ⟨a2,cap2,T2,i2,E2,o2,b2,x2⟩ ⟨#[46]⟩ false (HSW.out HF.out.bl) HIS).mono ?_;rintro e w4 ⟨rfl,hb⟩;replace HF:=Lib.hid (HF.out.call hb);replace HP:=Lib.hid (HP.out.call hb);clear f;have f:=HF.out.facts;dsimp only [Fs,Nes,List.map] at f;clear hb)
    go_region
    go_wp2_with fail
    refine bodyPost_ret (v:= .tuple #[.agg #[.slice a2 T2.length cap2,.int .i64 (i2:Int),.int .i64 E2,.int .i64 o2,.int .i64 b2,.int .i64 x2],.agg #[.int .i64 9,.int .i64 0,.string ⟨#[]⟩,.slice pa pl pc,.slice none 0 0,.bool false,.slice none 0 0]]) (by simp [results,Tryz.results168,go_sem,f]) rfl ?_
    exact sres_of (S:=⟨a2,cap2,T2,i2,E2,o2,b2,x2⟩) (hd:=⟨9,0,⟨#[]⟩,pa,pl,pc,none,0,0,false,none,0,0⟩) ((HF.out.put6 2 rfl (.slice a2 T2.length cap2) (.int .i64 (i2:Int)) (.int .i64 E2) (.int .i64 o2) (.int .i64 b2) (.int .i64 x2)).put7 1 rfl (.int .i64 9) (.int .i64 0) (.string ⟨#[]⟩) (.slice pa pl pc) (.slice none 0 0) (.bool false) (.slice none 0 0)).drew.bl (r:=_) (by rw [HRR.out];exact hS.out) (fun y K e=>by rw [HRR.out] at e;cases e;exact (((HP.out.put (i:=2) (cs':=#[.slice a2 T2.length cap2,.int .i64 (i2:Int),.int .i64 E2,.int .i64 o2,.int .i64 b2,.int .i64 x2]) rfl (put6_grown _ _ (.slice a2 T2.length cap2) (.int .i64 (i2:Int)) (.int .i64 E2) (.int .i64 o2) (.int .i64 b2) (.int .i64 x2))).put (i:=1) (cs':=#[.int .i64 9,.int .i64 0,.string ⟨#[]⟩,.slice pa pl pc,.slice none 0 0,.bool false,.slice none 0 0]) rfl (put7_grown _ _ (.int .i64 9) (.int .i64 0) (.string ⟨#[]⟩) (.slice pa pl pc) (.slice none 0 0) (.bool false) (.slice none 0 0))).call (Below.refl _ _).drew).xb (by omega) hal.out hz.out)
   |true=>
    have HIS:Hid (St.is ⟨a2,cap2,T2,i2,E2,o2,b2,x2⟩ (ByteArray.mk #[46]).toList=true):=Lib.hid (by rw [Lib.toList_data,hS.out.is];exact hb46)
    obtain ⟨b,hbb⟩:∃b,((pl:Int)==16)=b:=⟨_,rfl⟩
    have hrel2:=path_rel hS.out H.out.ok hb46 hPA.out (by have:=hal.out;omega) (by have:=hal.out;omega) b (by rw [hal.out,←hbb];simp;omega)
    obtain ⟨t9,M9,hM9,-,-⟩:=isB_cons hb46
    have hS3:=hS.out.next hM9
    obtain ⟨a3,cap3,T3,i3,E3,o3,b3,x3,hn3⟩:=(St.next ⟨a2,cap2,T2,i2,E2,o2,b2,x2⟩).get
    have HN3:=Lib.hid hn3
    rw [hn3] at hrel2 hS3
    have HSW3:Hid (∀{W:World},Below w.heap.size w W→SW W ⟨a3,cap3,T3,i3,E3,o3,b3,x3⟩):=Lib.hid fun hW=>H.out.kin hW hS3.kin
    obtain ⟨k,n,tx,at_,htk⟩:=St.pk_get ⟨a3,cap3,T3,i3,E3,o3,b3,x3⟩
    have HTK:=Lib.hid htk
    obtain ⟨wd2,hwd2⟩:∃wd2,(St.named ⟨a3,cap3,T3,i3,E3,o3,b3,x3⟩).2=wd2:=⟨_,rfl⟩
    obtain ⟨a4,cap4,T4,i4,E4,o4,b4,x4,hn4⟩:=(St.named ⟨a3,cap3,T3,i3,E3,o3,b3,x3⟩).1.get
    have HNM2:=Lib.hid (And.intro hn4 hwd2)
    have HNM:∀W,Hid (Below w.heap.size w W)→Hid (Calls Tryz.prog 57 #[.agg #[.slice a3 T3.length cap3,.int .i64 (i3:Int),.int .i64 E3,.int .i64 o3,.int .i64 b3,.int .i64 x3]] W (Ans (.tuple #[.agg #[.slice a4 T4.length cap4,.int .i64 (i4:Int),.int .i64 E4,.int .i64 o4,.int .i64 b4,.int .i64 x4],.string wd2]) W)):=fun W hW=>Lib.hid (by
     have:=snamed_any W ⟨a3,cap3,T3,i3,E3,o3,b3,x3⟩ (HSW3.out hW.out)
     rw [HNM2.out.1,HNM2.out.2] at this
     exact this)
    rw [hn4,hwd2,htk] at hrel2
    have hi2:i2≤100000:=by have h1:=hS.out.kin.i;have h2:=H.out.len;dsimp only at h1;omega
    have HL2:Hid (leftS wr w.heap.size=M.length+1):=Lib.hid (hS.out.leftS (HF.out.bx (i:=3) rfl))
    clear hb46 hM9 hS3 hn3 htk hn4 hwd2
    cases b with
    |true=>
     simp only [if_true] at hrel2
     obtain ⟨a5,cap5,T5,i5,E5,o5,b5,x5,hn5⟩:=(St.fail ⟨a4,cap4,T4,i4,E4,o4,b4,x4⟩ ⟨⟨k,n,tx.toList⟩,at_⟩ 4).get
     rw [hn5] at hrel2
     have HN5:=Lib.hid hn5
     clear hn5
     have HREL:=Lib.hid hrel2
     clear hrel2
     have f:=HF.out.facts
     dsimp only [Fs,Nes,List.map] at f
     go_wp2_with (first
      |(go_at_call 99;refine (sis_as _ ⟨a2,cap2,T2,i2,E2,o2,b2,x2⟩ ⟨#[46]⟩ true (HSW.out HF.out.bl) HIS).mono ?_;rintro e w4 ⟨rfl,hb⟩;replace HF:=Lib.hid (HF.out.call hb);replace HP:=Lib.hid (HP.out.call hb);clear f;have f:=HF.out.facts;dsimp only [Fs,Nes,List.map] at f;clear hb)
      |(go_at_call 56;refine (snext_as _ ⟨a2,cap2,T2,i2,E2,o2,b2,x2⟩ ⟨a3,cap3,T3,i3,E3,o3,b3,x3⟩ hi2 HN3).mono ?_;rintro e w5 ⟨rfl,hb⟩;unfold St.v;dsimp only;replace HF:=Lib.hid (HF.out.call hb);replace HP:=Lib.hid (HP.out.call hb);clear f;have f1:=HF.out.facts;dsimp only [Fs,Nes,List.map] at f1;replace HF:=Lib.hid (by have t:=HF.out.put6 3 rfl (.slice a3 T3.length cap3) (.int .i64 (i3:Int)) (.int .i64 E3) (.int .i64 o3) (.int .i64 b3) (.int .i64 x3);simp only [List.set_cons_succ,List.set_cons_zero] at t;exact t);replace HP:=Lib.hid (HP.out.put (i:=3) (cs':=#[.slice a3 T3.length cap3,.int .i64 (i3:Int),.int .i64 E3,.int .i64 o3,.int .i64 b3,.int .i64 x3]) rfl (put6_grown _ _ (.slice a3 T3.length cap3) (.int .i64 (i3:Int)) (.int .i64 E3) (.int .i64 o3) (.int .i64 b3) (.int .i64 x3)));have f:=HF.out.facts;dsimp only [Fs,Nes,List.map] at f;unfold put6 at f;clear hb)
      |(go_at_call 54;refine (peek_as _ ⟨a3,cap3,T3,i3,E3,o3,b3,x3⟩ k n at_ tx (HSW3.out HF.out.bl) HTK).mono ?_;rintro e w6 ⟨rfl,hb⟩;replace HF:=Lib.hid (HF.out.call hb);replace HP:=Lib.hid (HP.out.call hb);clear f f1;have f1:=HF.out.facts;dsimp only [Fs,Nes,List.map] at f1;replace HF:=Lib.hid (HF.out.new_ #[.int .i64 k,.int .i64 n,.string tx,.int .i64 at_] 97 (n:=w6.heap.size) (rfl));replace HP:=Lib.hid (HP.out.new_ #[.int .i64 k,.int .i64 n,.string tx,.int .i64 at_] 97 (n:=w6.heap.size) (rfl));have f:=HF.out.facts;dsimp only [Fs,Nes,List.map] at f;clear hb)
      |(go_at_call 57;refine (HNM _ (Lib.hid HF.out.bl)).out.mono ?_;rintro e w7 ⟨rfl,hb⟩;replace HF:=Lib.hid (HF.out.call hb);replace HP:=Lib.hid (HP.out.call hb);clear f f1;have f1:=HF.out.facts;dsimp only [Fs,Nes,List.map] at f1;replace HF:=Lib.hid (by have t:=HF.out.put6 4 rfl (.slice a4 T4.length cap4) (.int .i64 (i4:Int)) (.int .i64 E4) (.int .i64 o4) (.int .i64 b4) (.int .i64 x4);simp only [List.set_cons_succ,List.set_cons_zero] at t;exact t);replace HP:=Lib.hid (HP.out.put (i:=4) (cs':=#[.slice a4 T4.length cap4,.int .i64 (i4:Int),.int .i64 E4,.int .i64 o4,.int .i64 b4,.int .i64 x4]) rfl (put6_grown _ _ (.slice a4 T4.length cap4) (.int .i64 (i4:Int)) (.int .i64 E4) (.int .i64 o4) (.int .i64 b4) (.int .i64 x4)));have f:=HF.out.facts;dsimp only [Fs,Nes,List.map] at f;unfold put6 at f;have g:=(HF.out.old (.cells #[.string wd2] 9)).facts;dsimp only [Fs,Nes,List.map] at g;unfold put6 at g;have HCN:=Lib.hid (cell_one_new (put6 w7 w.heap.size (.slice a4 T4.length cap4) (.int .i64 (i4:Int)) (.int .i64 E4) (.int .i64 o4) (.int .i64 b4) (.int .i64 x4)) (.string wd2) 9);clear hb)
      |(go_at_call 55;refine (sfail_as _ ⟨a4,cap4,T4,i4,E4,o4,b4,x4⟩ ⟨a5,cap5,T5,i5,E5,o5,b5,x5⟩ k n tx at_ 4 HN5).mono ?_;rintro e w8 ⟨rfl,hb⟩;unfold St.v;dsimp only;replace HF:=Lib.hid (HF.out.call hb);replace HP:=Lib.hid (HP.out.call hb);clear f f1 g HCN;have f1:=HF.out.facts;dsimp only [Fs,Nes,List.map] at f1;replace HF:=Lib.hid (by have t:=HF.out.put6 4 rfl (.slice a5 T5.length cap5) (.int .i64 (i5:Int)) (.int .i64 E5) (.int .i64 o5) (.int .i64 b5) (.int .i64 x5);simp only [List.set_cons_succ,List.set_cons_zero] at t;exact t);replace HP:=Lib.hid (HP.out.put (i:=4) (cs':=#[.slice a5 T5.length cap5,.int .i64 (i5:Int),.int .i64 E5,.int .i64 o5,.int .i64 b5,.int .i64 x5]) rfl (put6_grown _ _ (.slice a5 T5.length cap5) (.int .i64 (i5:Int)) (.int .i64 E5) (.int .i64 o5) (.int .i64 b5) (.int .i64 x5)));have f:=HF.out.facts;dsimp only [Fs,Nes,List.map] at f;unfold put6 at f;have g:=(HF.out.old (.cells #[.string wd2] 9)).facts;dsimp only [Fs,Nes,List.map] at g;unfold put6 at g;have HCN:=Lib.hid (cell_one_new (put6 w8 w.heap.size (.slice a5 T5.length cap5) (.int .i64 (i5:Int)) (.int .i64 E5) (.int .i64 o5) (.int .i64 b5) (.int .i64 x5)) (.string wd2) 9);clear hb)
      |(at_builtin;refine wpList_append_own_at _ rfl _ _ 31 rfl w.heap.size 9 ti _ 1 16 Tryz.underlying31 HI.out HI0.out HI1.out HI2.out rfl (by decide) _ pl (acc.map Value.string) rfl (by have h9:=HP.out.own.alloc (.cells #[.string wd2] 9);rw [hal.out] at h9;exact h9) ⟨w8.heap.size,0,none⟩ 1 1 [.string wd2] rfl rfl (by have h9:=HCN.out;rw [put6_size] at h9;exact h9) (fun u hu=>by rw [List.mem_singleton.1 hu];rfl) (by unfold maxLen;omega) (by omega) (Nat.le_trans HF.out.size (bl_alloc (Below.refl _ _)).size) ?_))
     intro v9 w9 hown hgrow hnil hob
     obtain ⟨pa9,pc9,rfl⟩:=own_any hown
     have hfr:=HF.out.fresh (b:=w8.heap.size+1) (by rw [put6_size];omega)
     have HF9:=Lib.hid ((HF.out.old (.cells #[.string wd2] 9)).away hgrow fun k e=>⟨own_base HP.out.own k e,fun hm=>HP.out.far k hm e⟩)
     have hfar:∀b∈([(w3.heap.size+1,#[.int .i64 9,.int .i64 0,.string ⟨#[]⟩,.slice pa pl pc,.slice none 0 0,.bool false,.slice none 0 0],35),(w.heap.size+2,#[.int .i64 0,.int .i64 0,.string ⟨#[]⟩,.slice none 0 0,.slice none 0 0,.bool false,.slice none 0 0],35),(w.heap.size+1,#[.slice none 0 0,.int .i64 0,.int .i64 0,.int .i64 0,.int .i64 0,.int .i64 0],95),(w.heap.size,#[.slice a5 T5.length cap5,.int .i64 (i5:Int),.int .i64 E5,.int .i64 o5,.int .i64 b5,.int .i64 x5],95)]:BL).map Prod.fst,(Value.slice pa9 (pl+1) pc9).ownBlock≠some b:=fun b hm e=>by
      rcases hob with h1|h1
      ·rw [h1] at e;exact HP.out.far b (List.mem_cons_of_mem _ hm) e
      ·rw [h1] at e
       have e2:w8.heap.size+1=b:=by first|exact Option.some.inj e|(have:=Option.some.inj e;simpa [put6_size] using this)
       subst e2
       exact hfr (List.mem_cons_of_mem _ hm)
     have hg:=setCell_grown w9 (w3.heap.size+1) 3 (.slice pa9 (pl+1) pc9)
     have hF:=HF9.out.set 1 3 rfl (.slice pa9 (pl+1) pc9)
     simp only [List.set_cons_succ,List.set_cons_zero,List.setIfInBounds_toArray] at hF
     clear f f1 g
     have f:=HF9.out.facts
     dsimp only [Fs,Nes,List.map] at f
     go_wp2_with fail
     rcases HREL.out with ⟨T,h4,hlt,hP2,h17,hsz⟩|⟨a,x,hD,hR⟩
     ·go_roundw
      case rel=>exact ⟨_,_,_,_,_,_,_,_,pa9,pl+1,pc9,Lib.hid hF.tail,.inl ⟨acc++[wd2],T,by omega,by rw [hal.out] at h17;omega,Lib.hid (by rw [List.length_append,hal.out];rfl),Lib.hid ⟨by have h9:=owns_grown hown hg (hfar _ (by simp));rw [List.length_append,List.map_append,hal.out];exact h9,hfar⟩,Lib.hid h4,Lib.hid hP2,Lib.hid (fun x hx=>(List.mem_append.1 hx).elim (hz.out x) (fun hx=>by rw [List.mem_singleton.1 hx];exact hsz))⟩⟩
      case measure=>
       show leftS _ w.heap.size<leftS wr w.heap.size
       refine Nat.lt_of_le_of_lt (Nat.le_of_eq (Sv.leftS h4 (hF.bx (i:=4) rfl))) ?_
       rw [HL2.out];omega
     ·go_roundw
      case rel=>exact ⟨_,_,_,_,_,_,_,_,pa9,pl+1,pc9,Lib.hid hF.tail,.inr ⟨a,x,Lib.hid hD,Lib.hid hR⟩⟩
      case measure=>
       show leftS _ w.heap.size<leftS wr w.heap.size
       refine Nat.lt_of_le_of_lt (Nat.le_of_eq (Dd.leftS hD (hF.bx (i:=4) rfl))) ?_
       rw [HL2.out];omega
    |false=>
     simp only [Bool.false_eq_true,if_false] at hrel2
     have HREL:=Lib.hid hrel2
     clear hrel2
     have f:=HF.out.facts
     dsimp only [Fs,Nes,List.map] at f
     go_wp2_with (first
      |(go_at_call 99;refine (sis_as _ ⟨a2,cap2,T2,i2,E2,o2,b2,x2⟩ ⟨#[46]⟩ true (HSW.out HF.out.bl) HIS).mono ?_;rintro e w4 ⟨rfl,hb⟩;replace HF:=Lib.hid (HF.out.call hb);replace HP:=Lib.hid (HP.out.call hb);clear f;have f:=HF.out.facts;dsimp only [Fs,Nes,List.map] at f;clear hb)
      |(go_at_call 56;refine (snext_as _ ⟨a2,cap2,T2,i2,E2,o2,b2,x2⟩ ⟨a3,cap3,T3,i3,E3,o3,b3,x3⟩ hi2 HN3).mono ?_;rintro e w5 ⟨rfl,hb⟩;unfold St.v;dsimp only;replace HF:=Lib.hid (HF.out.call hb);replace HP:=Lib.hid (HP.out.call hb);clear f;have f1:=HF.out.facts;dsimp only [Fs,Nes,List.map] at f1;replace HF:=Lib.hid (by have t:=HF.out.put6 3 rfl (.slice a3 T3.length cap3) (.int .i64 (i3:Int)) (.int .i64 E3) (.int .i64 o3) (.int .i64 b3) (.int .i64 x3);simp only [List.set_cons_succ,List.set_cons_zero] at t;exact t);replace HP:=Lib.hid (HP.out.put (i:=3) (cs':=#[.slice a3 T3.length cap3,.int .i64 (i3:Int),.int .i64 E3,.int .i64 o3,.int .i64 b3,.int .i64 x3]) rfl (put6_grown _ _ (.slice a3 T3.length cap3) (.int .i64 (i3:Int)) (.int .i64 E3) (.int .i64 o3) (.int .i64 b3) (.int .i64 x3)));have f:=HF.out.facts;dsimp only [Fs,Nes,List.map] at f;unfold put6 at f;clear hb)
      |(go_at_call 54;refine (peek_as _ ⟨a3,cap3,T3,i3,E3,o3,b3,x3⟩ k n at_ tx (HSW3.out HF.out.bl) HTK).mono ?_;rintro e w6 ⟨rfl,hb⟩;replace HF:=Lib.hid (HF.out.call hb);replace HP:=Lib.hid (HP.out.call hb);clear f f1;have f1:=HF.out.facts;dsimp only [Fs,Nes,List.map] at f1;replace HF:=Lib.hid (HF.out.new_ #[.int .i64 k,.int .i64 n,.string tx,.int .i64 at_] 97 (n:=w6.heap.size) (rfl));replace HP:=Lib.hid (HP.out.new_ #[.int .i64 k,.int .i64 n,.string tx,.int .i64 at_] 97 (n:=w6.heap.size) (rfl));have f:=HF.out.facts;dsimp only [Fs,Nes,List.map] at f;clear hb)
      |(go_at_call 57;refine (HNM _ (Lib.hid HF.out.bl)).out.mono ?_;rintro e w7 ⟨rfl,hb⟩;replace HF:=Lib.hid (HF.out.call hb);replace HP:=Lib.hid (HP.out.call hb);clear f f1;have f1:=HF.out.facts;dsimp only [Fs,Nes,List.map] at f1;replace HF:=Lib.hid (by have t:=HF.out.put6 4 rfl (.slice a4 T4.length cap4) (.int .i64 (i4:Int)) (.int .i64 E4) (.int .i64 o4) (.int .i64 b4) (.int .i64 x4);simp only [List.set_cons_succ,List.set_cons_zero] at t;exact t);replace HP:=Lib.hid (HP.out.put (i:=4) (cs':=#[.slice a4 T4.length cap4,.int .i64 (i4:Int),.int .i64 E4,.int .i64 o4,.int .i64 b4,.int .i64 x4]) rfl (put6_grown _ _ (.slice a4 T4.length cap4) (.int .i64 (i4:Int)) (.int .i64 E4) (.int .i64 o4) (.int .i64 b4) (.int .i64 x4)));have f:=HF.out.facts;dsimp only [Fs,Nes,List.map] at f;unfold put6 at f;have g:=(HF.out.old (.cells #[.string wd2] 9)).facts;dsimp only [Fs,Nes,List.map] at g;unfold put6 at g;have HCN:=Lib.hid (cell_one_new (put6 w7 w.heap.size (.slice a4 T4.length cap4) (.int .i64 (i4:Int)) (.int .i64 E4) (.int .i64 o4) (.int .i64 b4) (.int .i64 x4)) (.string wd2) 9);clear hb)
      |(at_builtin;refine wpList_append_own_at _ rfl _ _ 31 rfl w.heap.size 9 ti _ 1 16 Tryz.underlying31 HI.out HI0.out HI1.out HI2.out rfl (by decide) _ pl (acc.map Value.string) rfl (by have h9:=HP.out.own.alloc (.cells #[.string wd2] 9);rw [hal.out] at h9;exact h9) ⟨w7.heap.size,0,none⟩ 1 1 [.string wd2] rfl rfl (by have h9:=HCN.out;rw [put6_size] at h9;exact h9) (fun u hu=>by rw [List.mem_singleton.1 hu];rfl) (by unfold maxLen;omega) (by omega) (Nat.le_trans HF.out.size (bl_alloc (Below.refl _ _)).size) ?_))
     intro v9 w9 hown hgrow hnil hob
     obtain ⟨pa9,pc9,rfl⟩:=own_any hown
     have hfr:=HF.out.fresh (b:=w7.heap.size+1) (by rw [put6_size];omega)
     have HF9:=Lib.hid ((HF.out.old (.cells #[.string wd2] 9)).away hgrow fun k e=>⟨own_base HP.out.own k e,fun hm=>HP.out.far k hm e⟩)
     have hfar:∀b∈([(w3.heap.size+1,#[.int .i64 9,.int .i64 0,.string ⟨#[]⟩,.slice pa pl pc,.slice none 0 0,.bool false,.slice none 0 0],35),(w.heap.size+2,#[.int .i64 0,.int .i64 0,.string ⟨#[]⟩,.slice none 0 0,.slice none 0 0,.bool false,.slice none 0 0],35),(w.heap.size+1,#[.slice none 0 0,.int .i64 0,.int .i64 0,.int .i64 0,.int .i64 0,.int .i64 0],95),(w.heap.size,#[.slice a4 T4.length cap4,.int .i64 (i4:Int),.int .i64 E4,.int .i64 o4,.int .i64 b4,.int .i64 x4],95)]:BL).map Prod.fst,(Value.slice pa9 (pl+1) pc9).ownBlock≠some b:=fun b hm e=>by
      rcases hob with h1|h1
      ·rw [h1] at e;exact HP.out.far b (List.mem_cons_of_mem _ hm) e
      ·rw [h1] at e
       have e2:w7.heap.size+1=b:=by first|exact Option.some.inj e|(have:=Option.some.inj e;simpa [put6_size] using this)
       subst e2
       exact hfr (List.mem_cons_of_mem _ hm)
     have hg:=setCell_grown w9 (w3.heap.size+1) 3 (.slice pa9 (pl+1) pc9)
     have hF:=HF9.out.set 1 3 rfl (.slice pa9 (pl+1) pc9)
     simp only [List.set_cons_succ,List.set_cons_zero,List.setIfInBounds_toArray] at hF
     clear f f1 g
     have f:=HF9.out.facts
     dsimp only [Fs,Nes,List.map] at f
     go_wp2_with fail
     rcases HREL.out with ⟨T,h4,hlt,hP2,h17,hsz⟩|⟨a,x,hD,hR⟩
     ·go_roundw
      case rel=>exact ⟨_,_,_,_,_,_,_,_,pa9,pl+1,pc9,Lib.hid hF.tail,.inl ⟨acc++[wd2],T,by omega,by rw [hal.out] at h17;omega,Lib.hid (by rw [List.length_append,hal.out];rfl),Lib.hid ⟨by have h9:=owns_grown hown hg (hfar _ (by simp));rw [List.length_append,List.map_append,hal.out];exact h9,hfar⟩,Lib.hid h4,Lib.hid hP2,Lib.hid (fun x hx=>(List.mem_append.1 hx).elim (hz.out x) (fun hx=>by rw [List.mem_singleton.1 hx];exact hsz))⟩⟩
      case measure=>
       show leftS _ w.heap.size<leftS wr w.heap.size
       refine Nat.lt_of_le_of_lt (Nat.le_of_eq (Sv.leftS h4 (hF.bx (i:=4) rfl))) ?_
       rw [HL2.out];omega
     ·go_roundw
      case rel=>exact ⟨_,_,_,_,_,_,_,_,pa9,pl+1,pc9,Lib.hid hF.tail,.inr ⟨a,x,Lib.hid hD,Lib.hid hR⟩⟩
      case measure=>
       show leftS _ w.heap.size<leftS wr w.heap.size
       refine Nat.lt_of_le_of_lt (Nat.le_of_eq (Dd.leftS hD (hF.bx (i:=4) rfl))) ?_
       rw [HL2.out];omega
  ·have HSW:Hid (∀{W:World},Below w.heap.size w W→SW W ⟨a2,cap2,T2,i2,E2,o2,b2,x2⟩):=Lib.hid fun hW=>H.out.kin hW hD.out.kin
   have HIS:Hid (St.is ⟨a2,cap2,T2,i2,E2,o2,b2,x2⟩ (ByteArray.mk #[46]).toList=false):=Lib.hid (hD.out.is _)
   replace hRR:Hid ((R.bind fun p M=>(Res.ok (Ex.mk 9 0 ⟨#[]⟩ p [] false []) M:Res Ex))= .bad a x):=Lib.hid (by rw [hRR.out];rfl)
   have f:=HF.out.facts
   dsimp only [Fs,Nes,List.map] at f
   go_wp2_with (go_at_call 99;refine (sis_as _ ⟨a2,cap2,T2,i2,E2,o2,b2,x2⟩ ⟨#[46]⟩ false (HSW.out HF.out.bl) HIS).mono ?_;rintro e w4 ⟨rfl,hb⟩;replace HF:=Lib.hid (HF.out.call hb);clear f;have f:=HF.out.facts;dsimp only [Fs,Nes,List.map] at f;clear hb)
   go_region
   go_wp2_with fail
   refine bodyPost_ret (v:= .tuple #[.agg #[.slice a2 T2.length cap2,.int .i64 (i2:Int),.int .i64 E2,.int .i64 o2,.int .i64 b2,.int .i64 x2],.agg #[.int .i64 9,.int .i64 0,.string ⟨#[]⟩,.slice pa pl pc,.slice none 0 0,.bool false,.slice none 0 0]]) (by simp [results,Tryz.results168,go_sem,f]) rfl ?_
   exact sres_of (S:=⟨a2,cap2,T2,i2,E2,o2,b2,x2⟩) (hd:=⟨9,0,⟨#[]⟩,pa,pl,pc,none,0,0,false,none,0,0⟩) ((HF.out.put6 2 rfl (.slice a2 T2.length cap2) (.int .i64 (i2:Int)) (.int .i64 E2) (.int .i64 o2) (.int .i64 b2) (.int .i64 x2)).put7 1 rfl (.int .i64 9) (.int .i64 0) (.string ⟨#[]⟩) (.slice pa pl pc) (.slice none 0 0) (.bool false) (.slice none 0 0)).drew.bl (r:=_) (by rw [hRR.out];exact hD.out) (fun y K e=>by rw [hRR.out] at e;cases e)
end Go.Proofs.YtkfihhagcimcmaaGreatDoor.Ps
