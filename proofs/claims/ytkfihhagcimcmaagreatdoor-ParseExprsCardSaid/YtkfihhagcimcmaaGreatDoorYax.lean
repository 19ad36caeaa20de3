/- Pc, Pd, Pe, Pf, Pg, Ph, Pi, Pj, Pk, Pl -/
import Derived.Test.YtkfihhagcimcmaaGreatDoorChecked
import Derived.Test.YtkfihhagcimcmaaGreatDoorProg
import Derived.Test.YtkfihhagcimcmaaGreatDoorY1
import Derived.Test.YtkfihhagcimcmaaGreatDoorYav
import Derived.Test.YtkfihhagcimcmaaGreatDoorYaw
namespace Go.Proofs.YtkfihhagcimcmaaGreatDoor.Ps
open Go.RowKit
open Lx (Tok bs TRow)
structure Keep (B:Nat) (w w':World):Prop where
  os:w'.os=w.os
  tape:w'.tape=w.tape
  output:w'.output=w.output
  size:w.heap.size≤w'.heap.size
  block:∀k,k<w.heap.size→k≠B→w'.heap[k]?=w.heap[k]?
theorem Keep.refl (B:Nat) (w:World):Keep B w w:=⟨rfl,rfl,rfl,Nat.le_refl _,fun _ _ _=>rfl⟩
theorem Keep.trans {B:Nat} {a b c:World} (h:Keep B a b) (k:Keep B b c):Keep B a c:=
  ⟨k.os.trans h.os,k.tape.trans h.tape,k.output.trans h.output,Nat.le_trans h.size k.size,fun i hi hB=>(k.block i (Nat.lt_of_lt_of_le hi h.size) hB).trans (h.block i hi hB)⟩
theorem Keep.of_below {B:Nat} {w w':World} (h:Below w.heap.size w w'):Keep B w w':=⟨h.os,h.tape,h.output,h.size,fun k hk _=>h.block k hk⟩
theorem Keep.set {B:Nat} {a w:World} (h:Keep B a w) (i:Nat) (v:Value):Keep B a (w.setCell ⟨B,i,none⟩ v):=
  ⟨h.os,h.tape,h.output,by rw [show (w.setCell ⟨B,i,none⟩ v).heap.size=w.heap.size by simp [World.setCell]];exact h.size,fun k hk hB=>by
    rw [Below.heap_setCell w ⟨B,i,none⟩ v k hB];exact h.block k hk hB⟩
theorem Keep.far {B:Nat} {a w:World} (h:Keep B a w) {r:Nat} (hr:a.heap.size≤r) (i:Nat) (v:Value):Keep B a (w.setCell ⟨r,i,none⟩ v):=
  ⟨h.os,h.tape,h.output,by rw [show (w.setCell ⟨r,i,none⟩ v).heap.size=w.heap.size by simp [World.setCell]];exact h.size,fun k hk hB=>by
    rw [Below.heap_setCell w ⟨r,i,none⟩ v k (by simp;omega)];exact h.block k hk hB⟩
theorem Keep.alloc {B:Nat} {a w:World} (h:Keep B a w) (o:Obj):Keep B a (w.alloc o):=h.trans (.of_below ((Below.refl _ _).alloc (Nat.le_refl _) o))
theorem Keep.grown {B:Nat} {a w w':World} {row:Option Nat} (h:Keep B a w) (hg:w.grownBy w' row) (hr:∀k,row=some k→a.heap.size≤k):Keep B a w':=
  ⟨hg.os.trans h.os,hg.tape.trans h.tape,hg.output.trans h.output,Nat.le_trans h.size hg.size,fun k hk hB=>(hg.block k (Nat.lt_of_lt_of_le hk h.size) (fun e=>by have:=hr k e.symm;omega)).trans (h.block k hk hB)⟩
theorem Keep.below {B N:Nat} {w0 w w':World} (h:Below N w0 w) (k:Keep B w w') (hB:N≤B) (hN:N≤w.heap.size):Below N w0 w':=
  h.trans ⟨k.os,k.tape,k.output,k.size,fun i hi=>k.block i (by omega) (by omega)⟩
theorem Keep.cell {B:Nat} {w w':World} (h:Keep B w w') {b o:Nat} (hb:b<w.heap.size) (hB:b≠B):w'.cell? ⟨b,o,none⟩=w.cell? ⟨b,o,none⟩:=by
  simp only [World.cell?,h.block b hb hB]
theorem lt_of_cell {w:World} {b o:Nat} {v:Value} (h:w.cell? ⟨b,o,none⟩=some v):b<w.heap.size:=by
  simp only [World.cell?] at h
  by_cases hb:b<w.heap.size
  · exact hb
  · rw [Array.getElem?_eq_none (by omega)] at h;cases h
def NoStr (w:World) (B:Nat):Prop:=∀o s,w.cell? ⟨B,o,none⟩≠some (.string s)
section
variable {B:Nat} {w w':World} (hN:NoStr w B) (hK:Keep B w w')
include hN hK
theorem keep_str {b o:Nat} {s:ByteArray} (h:w.cell? ⟨b,o,none⟩=some (.string s)):b≠B∧w'.cell? ⟨b,o,none⟩=some (.string s):=by
  have hb:b≠B:=fun e=>by subst e;exact hN _ _ h
  exact ⟨hb,(hK.cell (lt_of_cell h) hb).trans h⟩
theorem HdAt.keep {b off:Nat} {h:Hd} (hh:HdAt w b off h):HdAt w' b off h:=by
  have hb:=(keep_str hN hK hh.c2).1
  have hl:=lt_of_cell hh.c2
  have e:∀i,w'.cell? ⟨b,i,none⟩=w.cell? ⟨b,i,none⟩:=fun i=>hK.cell hl hb
  exact ⟨(e _).trans hh.c0,(e _).trans hh.c1,(e _).trans hh.c2,(e _).trans hh.c3,(e _).trans hh.c4,(e _).trans hh.c5,(e _).trans hh.c6⟩
theorem str_keep {a:Option Addr} {len:Nat} {xs:List ByteArray} (h:Nm.StrRow w a len xs):Nm.StrRow w' a len xs:=by
  obtain ⟨h1,h2,h3,h4⟩:=h
  refine ⟨h1,h2,h3,fun h0=>?_⟩
  obtain ⟨b,off,e,hlt,hc⟩:=h4 h0
  exact ⟨b,off,e,Nat.lt_of_lt_of_le hlt hK.size,fun i x hx=>(keep_str hN hK (hc i x hx)).2⟩
theorem trow_keep {a:Option Addr} {L:List Tok} (h:TRow w a L):TRow w' a L:=fun j hj=>by
  obtain ⟨b,off,e,lt,h0,h1,h2,h3⟩:=h j hj
  have hb:=(keep_str hN hK h2).1
  exact ⟨b,off,e,Nat.lt_of_lt_of_le lt hK.size,(hK.cell lt hb).trans h0,(hK.cell lt hb).trans h1,(hK.cell lt hb).trans h2,(hK.cell lt hb).trans h3⟩
end
structure TokOk (t:Tok):Prop where
  k:t.x.k≠0
  lo: -9007199254740992≤t.x.n
  hi:t.x.n≤9007199254740992
  len:t.x.t.length≤4096
  txt:t.x.k=3→t.x.t.length≤256
def OkL (L:List Tok):Prop:=∀t∈L,TokOk t
theorem OkL.suf {L M:List Tok} (h:OkL L) (hs:M<:+L):OkL M:=fun t ht=>h t (hs.subset ht)
theorem env_keep {p:Nat} {w w':World} (h:Nm.Env w) (hk:Keep p w w') (hp:7≤p):Nm.Env w':=
  ⟨fun r hr=>(hk.cell (by have:=h.one;omega) (by omega)).trans (h.words r hr),Nat.le_trans h.one hk.size⟩
structure Prs (w:World) (p:Nat) (a:Option Addr) (cap:Nat) (L:List Tok) (E o:Int):Prop where
  box:w.heap[p]?=some (.cells #[.slice a L.length cap,.int .i64 E,.int .i64 o] 154 (0,0))
  row:TRow w a L
  room:L.length≤cap
  ok:OkL L
  env:Nm.Env w
  far:7≤p
  low:∀b off,a=some ⟨b,off,none⟩→b<p
theorem set_heap {w:World} {B i:Nat} {cs:Array Value} {t:TypeId} {v:Value} (h:w.heap[B]?=some (.cells cs t (0,0))):(w.setCell ⟨B,i,none⟩ v).heap[B]?=some (.cells (cs.setIfInBounds i v) t (0,0)):=by
  have:=setCell_eq_setRow w B i cs t (0,0) v h
  rw [this]
  exact setRow_heap w B cs _ t _ h
section
variable {w w':World} {p cap:Nat} {a:Option Addr} {L:List Tok} {E o:Int} (h:Prs w p a cap L E o)
include h
theorem Prs.lt:p<w.heap.size:=(Array.getElem?_eq_some_iff.1 h.box).1
theorem Prs.cells:w.cell? ⟨p,0,none⟩=some (.slice a L.length cap)∧w.cell? ⟨p,1,none⟩=some (.int .i64 E)∧w.cell? ⟨p,2,none⟩=some (.int .i64 o)∧w.frozen? ⟨p,0,none⟩=false∧w.frozen? ⟨p,2,none⟩=false:=by
  have h:=h.box
  refine ⟨?_,?_,?_,?_,?_⟩<;>simp [World.cell?,World.frozen?,h]
theorem Prs.noStr:NoStr w p:=fun o s e=>by
  have h:=h.box
  simp only [World.cell?,h] at e
  match o with
  |0=>cases e
  |1=>cases e
  |2=>cases e
  |n+3=>simp at e
theorem Prs.below (hb:Below w.heap.size w w'):Prs w' p a cap L E o:=⟨(hb.block _ h.lt).trans h.box,h.row.below hb,h.room,h.ok,h.env.below hb,h.far,h.low⟩
theorem Prs.open_ (k:Int):Prs (w.setCell ⟨p,2,none⟩ (.int .i64 k)) p a cap L E k:=
  ⟨set_heap h.box,trow_keep h.noStr ((Keep.refl p w).set 2 _) h.row,h.room,h.ok,env_keep h.env ((Keep.refl p w).set 2 _) h.far,h.far,h.low⟩
theorem Prs.left {a':Option Addr} {cap':Nat} {M:List Tok} (hM:M.length≤cap') (hr:TRow w a' M) (hs:M<:+L) (hl:∀b off,a'=some ⟨b,off,none⟩→b<p):Prs (w.setCell ⟨p,0,none⟩ (.slice a' M.length cap')) p a' cap' M E o:=
  ⟨set_heap h.box,trow_keep h.noStr ((Keep.refl p w).set 0 _) hr,hM,h.ok.suf hs,env_keep h.env ((Keep.refl p w).set 0 _) h.far,h.far,hl⟩
end
theorem Prs.grown {w w':World} {p cap:Nat} {a:Option Addr} {L:List Tok} {E o:Int} {row:Option Nat} (h:Prs w p a cap L E o) (hg:w.grownBy w' row) (hr:∀k,row=some k→p<k):Prs w' p a cap L E o:=by
  have e:∀b,b≤p→w'.heap[b]?=w.heap[b]?:=fun b hb=>hg.block b (by have:=h.lt;omega) (fun e=>by have:=hr b e.symm;omega)
  have c:∀b o,b≤p→w'.cell? ⟨b,o,none⟩=w.cell? ⟨b,o,none⟩:=fun b o hb=>by simp only [World.cell?,e b hb]
  refine ⟨(e p (Nat.le_refl _)).trans h.box,fun j hj=>?_,h.room,h.ok,⟨fun r hr=>(c 4 r (by have:=h.far;omega)).trans (h.env.words r hr),Nat.le_trans h.env.one hg.size⟩,h.far,h.low⟩
  obtain ⟨b,off,ea,lt,h0,h1,h2,h3⟩:=h.row j hj
  have hb:=Nat.le_of_lt (h.low b off ea)
  exact ⟨b,off,ea,Nat.lt_of_lt_of_le lt hg.size,(c _ _ hb).trans h0,(c _ _ hb).trans h1,(c _ _ hb).trans h2,(c _ _ hb).trans h3⟩
theorem trow_tail {w:World} {b off:Nat} {t:Tok} {L:List Tok} (h:TRow w (some ⟨b,off,none⟩) (t::L)):TRow w (some ⟨b,off+4,none⟩) L:=fun j hj=>by
  obtain ⟨b',off',e,lt,h0,h1,h2,h3⟩:=h (j+1) (by simpa using hj)
  cases e
  have e:off+4+j*4=off+(j+1)*4:=by omega
  refine ⟨b,off+4,rfl,lt,?_⟩
  rw [e]
  exact ⟨h0,h1,h2,h3⟩
theorem trow_nil (w:World) (a:Option Addr):TRow w a []:=fun j hj=>absurd hj (by simp)
theorem trow_head {w:World} {a:Option Addr} {t:Tok} {L:List Tok} (h:TRow w a (t::L)):∃b off,a=some ⟨b,off,none⟩∧b<w.heap.size∧w.cell? ⟨b,off,none⟩=some (.int .i64 t.x.k)∧w.cell? ⟨b,off+1,none⟩=some (.int .i64 t.x.n)∧w.cell? ⟨b,off+2,none⟩=some (.string (bs t.x.t))∧w.cell? ⟨b,off+3,none⟩=some (.int .i64 t.at_):=by
  obtain ⟨b,off,e,lt,h0,h1,h2,h3⟩:=h 0 (by simp)
  simp only [Nat.zero_mul,Nat.add_zero,List.getElem_cons_zero] at h0 h1 h2 h3
  exact ⟨b,off,e,lt,h0,h1,h2,h3⟩
end Go.Proofs.YtkfihhagcimcmaaGreatDoor.Ps
namespace Go.Proofs.YtkfihhagcimcmaaGreatDoor.Ps
open Go.RowKit
open Lx (Tok bs)
def LtP {β:Type} (a b:ByteArray×β):Prop:=Op.bytesLess a.1.toList b.1.toList=true
theorem ltp_iff {β:Type} {a b:ByteArray×β}:LtP a b↔a.1.toList<b.1.toList:=by unfold LtP;rw [bytesLess_eq];exact decide_eq_true_iff
theorem LtP.trans {β:Type} {a b c:ByteArray×β} (h:LtP a b) (k:LtP b c):LtP a c:=ltp_iff.2 (List.lt_trans (ltp_iff.1 h) (ltp_iff.1 k))
theorem LtP.not {β:Type} {a b:ByteArray×β} (h:LtP a b) (k:LtP b a):False:=List.lt_irrefl _ (List.lt_trans (ltp_iff.1 h) (ltp_iff.1 k))
theorem putP_perm {β:Type}:∀(l:List (ByteArray×β)) (p:ByteArray×β),(putP l p).Perm (l++[p])
  |[],p=>by simp [putP]
  |q::l,p=>by
    rw [putP]
    split
    · exact (List.perm_append_comm (l₁:=[p]) (l₂:=q::l))
    · exact (putP_perm l p).cons q
theorem putP_rise {β:Type}:∀{l:List (ByteArray×β)} {p:ByteArray×β},l.Pairwise LtP→(∀q∈l,¬q.1.toList=p.1.toList)→(putP l p).Pairwise LtP
  |[],p,_,_=>by simp [putP]
  |q::l,p,h,hn=>by
    rw [List.pairwise_cons] at h
    rw [putP]
    split
    · rename_i hl
      have hl:LtP p q:=hl
      rw [List.pairwise_cons,List.pairwise_cons]
      exact ⟨fun x hx=>(List.mem_cons.1 hx).elim (fun e=>e▸hl) (fun hx=>hl.trans (h.1 x hx)),h⟩
    · rename_i hl
      have hl2:LtP q p:=by
        rw [ltp_iff]
        rw [bytesLess_eq] at hl
        have h1:¬p.1.toList<q.1.toList:=by simpa using hl
        rcases List.le_iff_lt_or_eq.1 (List.not_lt.1 h1) with h2|h2
        · exact h2
        · exact absurd h2 (hn q (List.mem_cons_self ..))
      rw [List.pairwise_cons]
      refine ⟨fun x hx=>?_,putP_rise h.2 fun x hx=>hn x (List.mem_cons_of_mem _ hx)⟩
      rcases List.mem_append.1 ((putP_perm l p).mem_iff.1 hx) with hx|hx
      · exact h.1 x hx
      · rw [List.mem_singleton.1 hx];exact hl2
def Apart {β:Type} (l:List (ByteArray×β)):Prop:=l.Pairwise fun a b=>¬a.1.toList=b.1.toList
theorem sort_both {β:Type}:∀(l m:List (ByteArray×β)),m.Pairwise LtP→Apart l→(∀x∈l,∀q∈m,¬q.1.toList=x.1.toList)→(l.foldl putP m).Perm (m++l)∧(l.foldl putP m).Pairwise LtP
  |[],m,h,_,_=>by simpa using h
  |p::l,m,h,hA,hx=>by
    unfold Apart at hA
    rw [List.pairwise_cons] at hA
    rw [List.foldl_cons]
    obtain ⟨h1,h2⟩:=sort_both l (putP m p) (putP_rise h fun q hq=>hx p (List.mem_cons_self ..) q hq) hA.2 fun x hxl q hq=>by
      rcases List.mem_append.1 ((putP_perm m p).mem_iff.1 hq) with hq|hq
      · exact hx x (List.mem_cons_of_mem _ hxl) q hq
      · rw [List.mem_singleton.1 hq];exact hA.1 x hxl
    refine ⟨h1.trans (((putP_perm m p).append_right l).trans ?_),h2⟩
    rw [List.append_assoc];rfl
theorem sort_perm {β:Type} {l:List (ByteArray×β)} (h:Apart l):(sortP l).Perm l:=(sort_both l [] .nil h (by simp)).1
theorem sort_rise {β:Type} {l:List (ByteArray×β)} (h:Apart l):(sortP l).Pairwise LtP:=(sort_both l [] .nil h (by simp)).2
theorem rise_eq {β:Type} {l m:List (ByteArray×β)} (h:l.Pairwise LtP) (k:m.Pairwise LtP) (hp:l.Perm m):l=m:=
  hp.eq_of_pairwise (fun _ _ _ _ a b=>(LtP.not a b).elim) h k
theorem has_app {β:Type} {l:List (ByteArray×β)} {p:ByteArray×β} (h:Apart l) (hn:hasB l p.1=false):Apart (l++[p]):=by
  unfold Apart
  rw [List.pairwise_append]
  refine ⟨h,List.pairwise_singleton ..,fun a ha b hb e=>?_⟩
  rw [List.mem_singleton.1 hb] at e
  have:=List.any_eq_false.1 hn a ha
  simp [e] at this
structure De where
  r:Bool
  nm:ByteArray
  x:Ex
def wholeM (E:Int) (L:List Tok):Res Ex:=(lv E (6*L.length+6) 1 0 L).bind fun x L1=>if 16<deep x then .bad (pk E L).at_ 22 else .ok x L1
def resB (L:List Tok):Bool:=match L with|[]=>false|t::_=>t.x.k==2&&t.x.t==[114,101,115,111,117,114,99,101]
def decl1 (E:Int) (r:Bool) (L:List Tok):Res De:=
  if nameB L then (must E [58] L.tail).bind fun _ L2=>(wholeM E L2).bind fun x L3=>(must E [59] L3).bind fun _ L4=> .ok ⟨r,bs (pk E L).x.t,x⟩ L4 else .bad (pk E L).at_ 21
def declM (E:Int) (L:List Tok):Res De:=if resB L then decl1 E true L.tail else decl1 E false L
def fileF (E:Int):Nat→List De→List Tok→Res (List De)
  |0,_,_=> .bad 0 0
  |g+1,acc,L=>if L.length=0 then .ok acc L else if acc.length=256 then .bad (pk E L).at_ 4 else (declM E L).bind fun d L'=>fileF E g (acc++[d]) L'
def aloneM (E:Int) (L:List Tok):Res Ex:=(wholeM E L).bind fun x L1=>if L1.length=0 then .ok x L1 else .bad (pk E L1).at_ 21
def readM {α:Type} (none_:α) (rule:Int→List Tok→Res α) (s:List UInt8):α×Int×Int:=
  if (Lx.lexL s).2.2=0 then match rule s.length (Lx.lexL s).1 with| .ok x _=>(x,0,0)| .bad a e=>(none_,a,e) else (none_,(Lx.lexL s).2.1,(Lx.lexL s).2.2)
theorem whole_fits (E:Int) (L:List Tok):Fits cnt L (wholeM E L):=(lv_fits E _ 1 0 L).bind fun x L1 h1 h2 y L' e=>by
  split at e
  · cases e
  · cases e;exact ⟨h1,h2⟩
theorem decl1_fits (E:Int) (r:Bool) (L:List Tok):Fits (fun d=>cnt d.x) L (decl1 E r L):=fun x L' h=>by
  unfold decl1 at h
  split at h
  · rename_i hn
    obtain ⟨t,M,rfl,_,_⟩:=nameB_cons hn
    obtain ⟨_,L2,e1,h⟩:=bind_ok h
    obtain ⟨y,L3,e2,h⟩:=bind_ok h
    obtain ⟨_,L4,e3,h⟩:=bind_ok h
    cases h
    obtain ⟨s1,c1⟩:=must_fits _ _ _ _ _ e1
    obtain ⟨s2,c2⟩:=whole_fits _ _ _ _ e2
    obtain ⟨s3,c3⟩:=must_fits _ _ _ _ _ e3
    refine ⟨s3.trans (s2.trans (s1.trans (List.suffix_cons _ _))),?_⟩
    simp at c1 c2 c3⊢
    omega
  · cases h
theorem decl_fits (E:Int) (L:List Tok):Fits (fun d=>cnt d.x) L (declM E L):=fun x L' h=>by
  unfold declM at h
  split at h
  · obtain ⟨s,c⟩:=decl1_fits _ _ _ _ _ h
    exact ⟨s.trans (List.tail_suffix _),Nat.le_trans c (List.tail_suffix L).length_le⟩
  · exact decl1_fits _ _ _ _ _ h
end Go.Proofs.YtkfihhagcimcmaaGreatDoor.Ps
namespace Go.Proofs.YtkfihhagcimcmaaGreatDoor.Ps
open Go.RowKit
open Lx (Tok bs bl_alloc)
def Ans (v:Value) (w:World) (e:Ending) (w':World):Prop:=e= .returned v∧Below w.heap.size w w'
theorem past {w:World} {b o:Nat} {v:Value} (h:w.cell? ⟨b,o,none⟩=some v) (ob:Obj):(w.alloc ob).cell? ⟨b,o,none⟩=some v:=by
  rw [(bl_alloc (o:=ob) (Below.refl w.heap.size w)).cell (p:=⟨b,o,none⟩) (lt_of_cell h)];exact h
set_option maxHeartbeats 1000000 in
theorem next_any (w:World) (p cap:Nat) (a:Option Addr) (L:List Tok) (E o:Int) (h:Prs w p a cap L E o):Calls Tryz.prog 96 #[.pointer (some ⟨p,0,none⟩)] w (Ans (pk E L).v w):=by
  obtain ⟨c0,c1,c2,f0,f2⟩:=h.cells
  have hr:=h.row
  have d0:=past c0
  have d1:=past c1
  clear h c0 c1 c2 f0 f2
  cases L with
  |nil=>
    go_enter Tryz.func96,Tryz.ntmps96
    go_wp2
    exact bodyPost_ret (v:= .agg #[.int .i64 0,.int .i64 0,.string ⟨#[]⟩,.int .i64 E]) (by simp [results,Tryz.results96,go_sem]) rfl ⟨rfl,bl_alloc (Below.refl _ _)⟩
  |cons t L=>
    obtain ⟨b,off,rfl,lt,t0,t1,t2,t3⟩:=trow_head hr
    have u0:=past t0
    have u1:=past t1
    have u2:=past t2
    have u3:=past t3
    clear hr t0 t1 t2 t3
    go_enter Tryz.func96,Tryz.ntmps96
    go_wp2
    exact bodyPost_ret (v:= .agg #[.int .i64 t.x.k,.int .i64 t.x.n,.string (bs t.x.t),.int .i64 t.at_]) (by simp [results,Tryz.results96,go_sem]) rfl ⟨rfl,bl_alloc (Below.refl _ _)⟩
end Go.Proofs.YtkfihhagcimcmaaGreatDoor.Ps
namespace Go.Proofs.YtkfihhagcimcmaaGreatDoor.Ps
open Go.RowKit
open Lx (Tok bs bl_alloc bl_set bl_step)
def fv (at_ e:Int):Value:= .iface 151 (.agg #[.int .i64 at_,.int .i64 e])
def PostR {α:Type} (V:World→α→Value→Prop) (w:World) (p:Nat) (E o:Int) (r:Res α) (e:Ending) (w':World):Prop:=
  Keep p w w'∧match r with
  | .ok x L'=>∃v a' cap',e= .returned v∧V w' x v∧Prs w' p a' cap' L' E o
  | .bad at_ er=>e= .panicked [{v:=fv at_ er,recovered:=false}]
section
variable {α:Type} {V:World→α→Value→Prop} {w w':World} {p:Nat} {E o:Int} {e:Ending}
theorem PostR.yes {x:α} {L':List Tok} (h:PostR V w p E o (.ok x L') e w'):∃v a' cap',e= .returned v∧V w' x v∧Prs w' p a' cap' L' E o∧Keep p w w':=by
  obtain ⟨hk,v,a',cap',h1,h2,h3⟩:=h
  exact ⟨v,a',cap',h1,h2,h3,hk⟩
theorem PostR.no {at_ er:Int} (h:PostR V w p E o (.bad at_ er) e w'):e= .panicked [{v:=fv at_ er,recovered:=false}]∧Keep p w w':=⟨h.2,h.1⟩
theorem PostR.mkY {r:Res α} {x:α} {L':List Tok} {a':Option Addr} {cap':Nat} {v:Value} (hr:r= .ok x L') (hv:V w' x v) (hP:Prs w' p a' cap' L' E o) (hk:Keep p w w'):PostR V w p E o r (.returned v) w':=by
  subst hr;exact ⟨hk,v,a',cap',rfl,hv,hP⟩
theorem PostR.mkN {r:Res α} {at_ er:Int} (hr:r= .bad at_ er) (hk:Keep p w w'):PostR V w p E o r (.panicked [{v:=fv at_ er,recovered:=false}]) w':=by
  subst hr;exact ⟨hk,rfl⟩
end
def VU (_:World) (_:Unit) (v:Value):Prop:=v= .tuple #[]
def VB (_:World) (b:Bool) (v:Value):Prop:=v= .bool b
def VS (_:World) (s:ByteArray) (v:Value):Prop:=v= .string s
def VI (_:World) (n:Int) (v:Value):Prop:=v= .int .i64 n
def Bx (w:World) (b:Nat) (cs:Array Value) (t:TypeId):Prop:=w.heap[b]?=some (.cells cs t (0,0))
theorem Bx.lt {w:World} {b:Nat} {cs:Array Value} {t:TypeId} (h:Bx w b cs t):b<w.heap.size:=(Array.getElem?_eq_some_iff.1 h).1
theorem Bx.cell {w:World} {b:Nat} {cs:Array Value} {t:TypeId} (h:Bx w b cs t) (i:Nat) {v:Value} (hi:cs[i]?=some v):w.cell? ⟨b,i,none⟩=some v:=by
  unfold Bx at h;simp [World.cell?,h,hi]
theorem Bx.fz {w:World} {b:Nat} {cs:Array Value} {t:TypeId} (h:Bx w b cs t) (i:Nat):w.frozen? ⟨b,i,none⟩=false:=by
  unfold Bx at h;simp [World.frozen?,h]
theorem Bx.below {w w':World} {b:Nat} {cs:Array Value} {t:TypeId} (h:Bx w b cs t) (hb:Below w.heap.size w w'):Bx w' b cs t:=(hb.block _ h.lt).trans h
theorem Bx.keep {w w':World} {b p:Nat} {cs:Array Value} {t:TypeId} (h:Bx w b cs t) (hk:Keep p w w') (hp:b≠p):Bx w' b cs t:=(hk.block _ h.lt hp).trans h
theorem Bx.new (w:World) (cs:Array Value) (t:TypeId):Bx (w.alloc (.cells cs t)) w.heap.size cs t:=Lx.heap_new w _
theorem Bx.old {w:World} {b:Nat} {cs:Array Value} {t:TypeId} (h:Bx w b cs t) (o:Obj):Bx (w.alloc o) b cs t:=h.below (bl_alloc (Below.refl _ _))
theorem Bx.set {w:World} {b i:Nat} {cs:Array Value} {t:TypeId} {v:Value} (h:Bx w b cs t):Bx (w.setCell ⟨b,i,none⟩ v) b (cs.setIfInBounds i v) t:=set_heap h
theorem Bx.other {w:World} {b c i:Nat} {cs:Array Value} {t:TypeId} {v:Value} (h:Bx w b cs t) (hc:b≠c):Bx (w.setCell ⟨c,i,none⟩ v) b cs t:=(Below.heap_setCell w ⟨c,i,none⟩ v b hc).trans h
theorem field_at (k n x:Int) (s:ByteArray) (w:World):(Instr.field 155 (.agg #[.int .i64 k,.int .i64 n,.string s,.int .i64 x]) 3).run Tryz.prog w= .ok (.int .i64 x) w:=by kernel_rfl
theorem field_t (k n x:Int) (s:ByteArray) (w:World):(Instr.field 155 (.agg #[.int .i64 k,.int .i64 n,.string s,.int .i64 x]) 2).run Tryz.prog w= .ok (.string s) w:=by kernel_rfl
set_option maxRecDepth 100000 in
set_option maxHeartbeats 1000000 in
theorem fault_any (w:World) (p cap:Nat) (a:Option Addr) (L:List Tok) (E o x:Int) (h:Prs w p a cap L E o):Calls Tryz.prog 97 #[.pointer (some ⟨p,0,none⟩),.int .i64 x] w (Ans (.agg #[.int .i64 (pk E L).at_,.int .i64 x]) w):=by
  have HN:=fun W (hW:Below w.heap.size w W)=>Lib.hid (next_any W p cap a L E o (h.below hW))
  have HB:=Lib.hid (bl_alloc (o:= .cells #[.int .i64 0,.int .i64 0] 151) (Below.refl w.heap.size w))
  obtain ⟨⟨⟨k,n,s⟩,at_⟩,ht⟩:∃t,pk E L=t:=⟨_,rfl⟩
  rw [ht] at HN⊢
  unfold Lx.Tok.v at HN
  have hF:=field_at
  clear h ht
  go_enter Tryz.func97,Tryz.ntmps97
  go_wp2_with (go_at_call 96;refine (HN _ HB.out).out.mono ?_;rintro e w2 ⟨rfl,hb⟩;have HB2:=Lib.hid (bl_step HB.out hb);have hx:=(Bx.new w #[.int .i64 0,.int .i64 0] 151).below hb;have k0:=hx.cell 0 rfl;have k1:=hx.cell 1 rfl;have kf:=hx.fz;clear hx hb)
  exact bodyPost_ret (v:= .agg #[.int .i64 at_,.int .i64 x]) (by simp [results,Tryz.results97,go_sem,k0,k1]) rfl ⟨rfl,bl_set (bl_set HB2.out (Nat.le_refl _)) (Nat.le_refl _)⟩
set_option maxHeartbeats 1000000 in
theorem pass_any (w:World) (p cap:Nat) (a:Option Addr) (t:Tok) (L:List Tok) (E o:Int) (h:Prs w p a cap (t::L) E o):Calls Tryz.prog 141 #[.pointer (some ⟨p,0,none⟩)] w (PostR VU w p E o (.ok () L)):=by
  obtain ⟨c0,c1,c2,f0,f2⟩:=h.cells
  have H:=Lib.hid h
  obtain ⟨b,off,rfl,lt,t0,t1,t2,t3⟩:=trow_head h.row
  have hc:=h.room
  have hrow:=Lib.hid (trow_tail h.row)
  have hlow:=h.low b off rfl
  clear h t0 t1 t2 t3 c1 c2 f2
  go_enter Tryz.func141,Tryz.ntmps141
  go_wp2
  · go_end0
    subst_vars
    obtain rfl:L=[]:=by cases L with|nil=>rfl|cons x y=>simp at hc
    exact .mkY rfl rfl (H.out.left (Nat.le_refl 0) (trow_nil _ _) (List.suffix_cons _ _) (fun _ _ e=>by cases e;exact hlow)) ((Keep.refl p w).set 0 _)
  · go_end0
    exact .mkY rfl rfl (H.out.left (by simp at hc;omega) hrow.out (List.suffix_cons _ _) (fun _ _ e=>by cases e;exact hlow)) ((Keep.refl p w).set 0 _)
theorem isB_pk (E:Int) (sg:List UInt8) (L:List Tok):isB sg L=((pk E L).x.k==4&&(pk E L).x.t==sg):=by
  cases L with
  |nil=>rfl
  |cons t M=>rfl
theorem nameB_pk (E:Int) (L:List Tok):nameB L=((pk E L).x.k==2&&Nm.rightL (pk E L).x.t):=by
  cases L with
  |nil=>rfl
  |cons t M=>rfl
set_option maxRecDepth 100000 in
set_option maxHeartbeats 1000000 in
theorem is_any (w:World) (p cap:Nat) (a:Option Addr) (L:List Tok) (E o:Int) (sg:ByteArray) (h:Prs w p a cap L E o):Calls Tryz.prog 204 #[.pointer (some ⟨p,0,none⟩),.string sg] w (Ans (.bool (isB sg.toList L)) w):=by
  have HN:=Lib.hid (next_any w p cap a L E o h)
  rw [isB_pk E]
  obtain ⟨⟨⟨k,n,s⟩,at_⟩,ht⟩:∃t,pk E L=t:=⟨_,rfl⟩
  rw [ht] at HN⊢
  unfold Lx.Tok.v at HN
  dsimp only at HN⊢
  obtain ⟨S,hS⟩:∃S,bs s=S:=⟨_,rfl⟩
  have hS2:s=S.toList:=by rw [←hS,Lx.bs_list]
  rw [hS] at HN
  subst hS2
  clear h ht hS
  obtain ⟨r,hr⟩:∃r,(S.toList==sg.toList)=r:=⟨_,rfl⟩
  rw [hr]
  by_cases hk:k=4
  · subst hk
    go_enter Tryz.func204,Tryz.ntmps204
    go_wp2_with (go_at_call 96;refine HN.out.mono ?_;rintro e w2 ⟨rfl,hb⟩;have HB2:=Lib.hid hb;clear hb)
    go_ret
    exact ⟨rfl,bl_alloc HB2.out⟩
  · have hk2:(k==4)=false:=by simpa using hk
    rw [hk2]
    go_enter Tryz.func204,Tryz.ntmps204
    go_wp2_with (go_at_call 96;refine HN.out.mono ?_;rintro e w2 ⟨rfl,hb⟩;have HB2:=Lib.hid hb;clear hb)
    go_ret
    exact ⟨rfl,bl_alloc HB2.out⟩
end Go.Proofs.YtkfihhagcimcmaaGreatDoor.Ps
namespace Go.Proofs.YtkfihhagcimcmaaGreatDoor.Ps
open Go.RowKit
open Lx (Tok bs bl_alloc bl_step)
theorem is_as (w:World) (p cap:Nat) (a:Option Addr) (L:List Tok) (E o:Int) (sg:ByteArray) (b:Bool) (h:Prs w p a cap L E o) (hb:Hid (isB sg.toList L=b)):Calls Tryz.prog 204 #[.pointer (some ⟨p,0,none⟩),.string sg] w (Ans (.bool b) w):=by
  rw [←hb.out];exact is_any w p cap a L E o sg h
theorem fault_as (w:World) (p cap:Nat) (a:Option Addr) (L:List Tok) (E o x at_:Int) (h:Prs w p a cap L E o) (ht:Hid ((pk E L).at_=at_)):Calls Tryz.prog 97 #[.pointer (some ⟨p,0,none⟩),.int .i64 x] w (Ans (.agg #[.int .i64 at_,.int .i64 x]) w):=by
  rw [←ht.out];exact fault_any w p cap a L E o x h
set_option maxRecDepth 100000 in
set_option maxHeartbeats 1000000 in
theorem may_any (w:World) (p cap:Nat) (a:Option Addr) (L:List Tok) (E o:Int) (sg:ByteArray) (h:Prs w p a cap L E o):Calls Tryz.prog 164 #[.pointer (some ⟨p,0,none⟩),.string sg] w (PostR VB w p E o (.ok (isB sg.toList L) (if isB sg.toList L then L.tail else L))):=by
  have H:=Lib.hid h
  clear h
  cases hb:isB sg.toList L with
  |false=>
    have HI:=Lib.hid (is_as w p cap a L E o sg false H.out hb)
    clear hb
    go_enter Tryz.func164,Tryz.ntmps164
    go_wp2_with (go_at_call 204;refine HI.out.mono ?_;rintro e w2 ⟨rfl,hb⟩;have HB:=Lib.hid hb;clear hb)
    go_ret
    exact .mkY rfl rfl (H.out.below HB.out) (.of_below HB.out)
  |true=>
    have HI:=Lib.hid (is_as w p cap a L E o sg true H.out hb)
    obtain ⟨t,M,rfl,_,_⟩:=isB_cons hb
    clear hb
    go_enter Tryz.func164,Tryz.ntmps164
    go_wp2_with (first
      |(go_at_call 204;refine HI.out.mono ?_;rintro e w2 ⟨rfl,hb⟩;have HB:=Lib.hid hb;clear hb)
      |(go_at_call 141;refine (pass_any _ _ _ _ _ _ _ _ (H.out.below HB.out)).mono ?_;rintro e w3 hq;obtain ⟨v,a3,cp3,rfl,rfl,hP,hK⟩:=hq.yes;have HP:=Lib.hid hP;have HK:=Lib.hid hK;clear hP hK hq))
    go_ret
    exact .mkY rfl rfl HP.out ((Keep.of_below HB.out).trans HK.out)
set_option maxRecDepth 100000 in
set_option maxHeartbeats 1000000 in
theorem must_any (w:World) (p cap:Nat) (a:Option Addr) (L:List Tok) (E o:Int) (sg:ByteArray) (h:Prs w p a cap L E o):Calls Tryz.prog 143 #[.pointer (some ⟨p,0,none⟩),.string sg] w (PostR VU w p E o (must E sg.toList L)):=by
  have HM:=Lib.hid (may_any w p cap a L E o sg h)
  unfold must
  cases hb:isB sg.toList L with
  |true=>
    rw [hb] at HM
    clear hb h
    go_enter Tryz.func143,Tryz.ntmps143
    go_wp2_with (go_at_call 164;refine HM.out.mono ?_;rintro e w2 hq;obtain ⟨v,a3,cp3,rfl,rfl,hP,hK⟩:=hq.yes;have HP:=Lib.hid hP;have HK:=Lib.hid hK;clear hP hK hq)
    go_end0
    exact .mkY rfl rfl HP.out HK.out
  |false=>
    rw [hb] at HM
    obtain ⟨x,hx⟩:∃x,(pk E L).at_=x:=⟨_,rfl⟩
    rw [hx]
    have HX:=Lib.hid hx
    clear hb h hx
    go_enter Tryz.func143,Tryz.ntmps143
    go_wp2_with (first
      |(go_at_call 164;refine HM.out.mono ?_;rintro e w2 hq;obtain ⟨v,a3,cp3,rfl,rfl,hP,hK⟩:=hq.yes;have HP:=Lib.hid hP;have HK:=Lib.hid hK;clear hP hK hq)
      |(go_at_call 97;refine (fault_as _ _ _ _ _ _ _ _ _ HP.out HX).mono ?_;rintro e w3 ⟨rfl,hb⟩;have HB:=Lib.hid hb;clear hb))
    exact ⟨rfl,.mkN rfl (HK.out.trans (.of_below HB.out))⟩
theorem pk_ok {L:List Tok} (h:OkL L) (E:Int):(pk E L).x.t.length≤4096∧-9007199254740992≤(pk E L).x.n∧(pk E L).x.n≤9007199254740992:=by
  cases L with
  |nil=>exact ⟨Nat.zero_le _,by show _≤(0:Int);omega,by show (0:Int)≤_;omega⟩
  |cons t M=>have:=h t (List.mem_cons_self ..);exact ⟨this.len,this.lo,this.hi⟩
theorem bs_size (l:List UInt8):(bs l).size=l.length:=by rw [Nm.size_list,Lx.bs_list]
theorem next_as (w:World) (p cap:Nat) (a:Option Addr) (L:List Tok) (E o k n at_:Int) (S:ByteArray) (h:Prs w p a cap L E o) (ht:Hid (pk E L=⟨⟨k,n,S.toList⟩,at_⟩)):Calls Tryz.prog 96 #[.pointer (some ⟨p,0,none⟩)] w (Ans (.agg #[.int .i64 k,.int .i64 n,.string S,.int .i64 at_]) w):=by
  have:=next_any w p cap a L E o h
  rw [ht.out] at this
  unfold Lx.Tok.v at this
  dsimp only at this
  rw [Lx.bs_of] at this
  exact this
theorem pk_get (E:Int) (L:List Tok):∃k n at_ S,pk E L=⟨⟨k,n,ByteArray.toList S⟩,at_⟩:=by
  obtain ⟨⟨k,n,s⟩,at_⟩:=pk E L
  exact ⟨k,n,at_,bs s,by rw [Lx.bs_list]⟩
def nameM (E:Int) (L:List Tok):Res ByteArray:=if nameB L then .ok (bs (pk E L).x.t) L else .bad (pk E L).at_ 21
set_option maxRecDepth 100000 in
set_option maxHeartbeats 1000000 in
theorem name_any (w:World) (p cap:Nat) (a:Option Addr) (L:List Tok) (E o:Int) (h:Prs w p a cap L E o):Calls Tryz.prog 142 #[.pointer (some ⟨p,0,none⟩)] w (PostR VS w p E o (nameM E L)):=by
  have H:=Lib.hid h
  obtain ⟨k,n,at_,S,ht⟩:=pk_get E L
  have hz:=(pk_ok h.ok E).1
  unfold nameM
  rw [nameB_pk E]
  rw [ht] at hz⊢
  dsimp only at hz⊢
  rw [Lx.bs_of]
  have HT:=Lib.hid ht
  have HX:Hid ((pk E L).at_=at_):=Lib.hid (by rw [ht])
  have hs:S.size≤140737488355328:=by rw [Nm.size_list];omega
  clear ht h hz
  by_cases hk:k=2
  · subst hk
    have HE:=fun W (hW:Below w.heap.size w W)=>Lib.hid (H.out.env.below hW)
    cases hr:Nm.rightL S.toList with
    |true=>
      have HR:=Lib.hid hr
      clear hr
      go_enter Tryz.func142,Tryz.ntmps142
      go_wp2_with (first
        |(go_at_call 96;refine (next_as _ _ _ _ _ _ _ _ _ _ _ H.out HT).mono ?_;rintro e w2 ⟨rfl,hb⟩;have HB:=Lib.hid (bl_alloc (o:= .cells #[.int .i64 2,.int .i64 n,.string S,.int .i64 at_] 155) hb);have hx:=(Bx.new w2 #[.int .i64 2,.int .i64 n,.string S,.int .i64 at_] 155);have HX2:=Lib.hid hx;clear hx hb)
        |(go_at_call 91;refine (Nm.right_as _ _ _ (HE _ HB.out).out hs HR).mono ?_;rintro e w3 ⟨rfl,hb⟩;have hx:=HX2.out.below hb;have k2:=hx.cell 2 rfl;have HB3:=Lib.hid (bl_step HB.out hb);clear hx hb))
      go_ret
      exact .mkY rfl rfl (H.out.below HB3.out) (.of_below HB3.out)
    |false=>
      have HR:=Lib.hid hr
      clear hr
      go_enter Tryz.func142,Tryz.ntmps142
      go_wp2_with (first
        |(go_at_call 96;refine (next_as _ _ _ _ _ _ _ _ _ _ _ H.out HT).mono ?_;rintro e w2 ⟨rfl,hb⟩;have HB:=Lib.hid (bl_alloc (o:= .cells #[.int .i64 2,.int .i64 n,.string S,.int .i64 at_] 155) hb);have hx:=(Bx.new w2 #[.int .i64 2,.int .i64 n,.string S,.int .i64 at_] 155);have HX2:=Lib.hid hx;clear hx hb)
        |(go_at_call 91;refine (Nm.right_as _ _ _ (HE _ HB.out).out hs HR).mono ?_;rintro e w3 ⟨rfl,hb⟩;have HB3:=Lib.hid (bl_step HB.out hb);clear hb)
        |(go_at_call 97;refine (fault_as _ _ _ _ _ _ _ _ _ (H.out.below HB3.out) HX).mono ?_;rintro e w4 ⟨rfl,hb⟩;have HB4:=Lib.hid (bl_step HB3.out hb);clear hb))
      exact ⟨rfl,.mkN rfl (.of_below HB4.out)⟩
  · have hk2:(k==2)=false:=by simpa using hk
    have hk3:(k !=2)=true:=by simpa using hk
    rw [hk2]
    clear hk2
    go_enter Tryz.func142,Tryz.ntmps142
    go_wp2_with (first
      |(go_at_call 96;refine (next_as _ _ _ _ _ _ _ _ _ _ _ H.out HT).mono ?_;rintro e w2 ⟨rfl,hb⟩;have HB:=Lib.hid (bl_alloc (o:= .cells #[.int .i64 k,.int .i64 n,.string S,.int .i64 at_] 155) hb);clear hb)
      |(go_at_call 97;refine (fault_as _ _ _ _ _ _ _ _ _ (H.out.below HB.out) HX).mono ?_;rintro e w4 ⟨rfl,hb⟩;have HB4:=Lib.hid (bl_step HB.out hb);clear hb))
    exact ⟨rfl,.mkN rfl (.of_below HB4.out)⟩
end Go.Proofs.YtkfihhagcimcmaaGreatDoor.Ps
namespace Go.Proofs.YtkfihhagcimcmaaGreatDoor.Ps
open Go.RowKit
open Lx (Tok bl_alloc bl_step)
theorem may_as (w:World) (p cap:Nat) (a:Option Addr) (L M:List Tok) (E o:Int) (sg:ByteArray) (b:Bool) (h:Prs w p a cap L E o) (hb:Hid (isB sg.toList L=b∧(if b then L.tail else L)=M)):Calls Tryz.prog 164 #[.pointer (some ⟨p,0,none⟩),.string sg] w (PostR VB w p E o (.ok b M)):=by
  obtain ⟨h1,h2⟩:=hb.out
  have:=may_any w p cap a L E o sg h
  rw [h1,h2] at this
  exact this
theorem isL (l:List UInt8) (L:List Tok):isB (ByteArray.toList ⟨l.toArray⟩) L=isB l L:=by rw [show (ByteArray.toList ⟨l.toArray⟩)=l from Lx.bs_list l]
def leftN (w:World) (p:Nat):Nat:=match w.cell? ⟨p,0,none⟩ with|some (.slice _ n _)=>n|_=>0
theorem Prs.leftN {w:World} {p cap:Nat} {a:Option Addr} {L:List Tok} {E o:Int} (h:Prs w p a cap L E o):leftN w p=L.length:=by
  unfold Ps.leftN;rw [h.cells.1]
theorem num1_bad {E:Int} {L:List Tok} (h:(pk E L).x.k≠1):num1 E L= .bad (pk E L).at_ 21:=if_neg h
theorem num1_ok {E:Int} {t:Tok} {M:List Tok} (h:t.x.k=1):num1 E (t::M)= .ok t.x.n M:=if_pos h
set_option maxRecDepth 100000 in
set_option maxHeartbeats 1000000 in
theorem number_any (w:World) (p cap:Nat) (a:Option Addr) (L:List Tok) (E o:Int) (h:Prs w p a cap L E o):Calls Tryz.prog 229 #[.pointer (some ⟨p,0,none⟩)] w (PostR VI w p E o (numM E L)):=by
  obtain ⟨b,hb⟩:∃b,isB [45] L=b:=⟨_,rfl⟩
  obtain ⟨M,hM⟩:∃M,(if b then L.tail else L)=M:=⟨_,rfl⟩
  have HM:Hid (isB (ByteArray.toList ⟨#[45]⟩) L=b∧(if b then L.tail else L)=M):=Lib.hid ⟨(isL [45] L).trans hb,hM⟩
  have hs:M<:+L:=by
    rw [←hM]
    split
    · exact List.tail_suffix _
    · exact List.suffix_rfl
  obtain ⟨hz,hlo,hhi⟩:=pk_ok (h.ok.suf hs) E
  obtain ⟨k,n,at_,S,ht⟩:=pk_get E M
  have H:=Lib.hid h
  have HT:=Lib.hid ht
  have HX:Hid ((pk E M).at_=at_):=Lib.hid (by rw [ht])
  rw [ht] at hlo hhi
  dsimp only at hlo hhi
  have hw:IntKind.i64.wrap (-n)= -n:=by rw [IntKind.wrap_i64];omega
  by_cases hk:k=1
  · subst hk
    obtain ⟨t,M2,rfl,e2⟩:=pk_cons (E:=E) (L:=M) (by rw [ht];show (1:Int)≠0;decide)
    have hR:numM E L= .ok (if b then-n else n) M2:=by
      unfold numM
      rw [ht] at e2
      subst e2
      rw [hb]
      cases b with
      |true=>
        rw [if_pos rfl] at hM⊢
        rw [hM,num1_ok rfl];rfl
      |false=>
        rw [if_neg (by decide)] at hM⊢
        rw [hM,num1_ok rfl];rfl
    rw [hR]
    clear h hb hM hs hz ht hR e2 hlo hhi
    cases b
    · go_enter Tryz.func229,Tryz.ntmps229
      go_wp2_with (first
        |(go_at_call 164;refine (may_as _ _ _ _ _ _ _ _ _ _ H.out HM).mono ?_;rintro e w2 hq;obtain ⟨v,a2,cp2,rfl,rfl,hP,hK⟩:=hq.yes;have HP:=Lib.hid hP;have HK:=Lib.hid hK;clear hP hK hq)
        |(go_at_call 96;refine (next_as _ _ _ _ _ _ _ _ _ _ _ HP.out HT).mono ?_;rintro e w3 ⟨rfl,hb⟩;have HB:=Lib.hid (bl_alloc (o:= .cells #[.int .i64 1,.int .i64 n,.string S,.int .i64 at_] 155) hb);have hx:=(Bx.new w3 #[.int .i64 1,.int .i64 n,.string S,.int .i64 at_] 155);have HX3:=Lib.hid hx;have hlt:=hb.size;have hpl:=HP.out.lt;clear hx hb)
        |(go_at_call 141;refine (pass_any _ _ _ _ _ _ _ _ (HP.out.below HB.out)).mono ?_;rintro e w4 hq;obtain ⟨v,a4,cp4,rfl,rfl,hP4,hK4⟩:=hq.yes;have hx:=HX3.out.keep hK4 (by omega);have k1:=hx.cell 1 rfl;have HP4:=Lib.hid hP4;have HK4:=Lib.hid ((HK.out.trans (.of_below HB.out)).trans hK4);clear hx hP4 hK4 hq))
      go_ret
      exact .mkY rfl rfl HP4.out HK4.out
    · go_enter Tryz.func229,Tryz.ntmps229
      go_wp2_with (first
        |(go_at_call 164;refine (may_as _ _ _ _ _ _ _ _ _ _ H.out HM).mono ?_;rintro e w2 hq;obtain ⟨v,a2,cp2,rfl,rfl,hP,hK⟩:=hq.yes;have HP:=Lib.hid hP;have HK:=Lib.hid hK;clear hP hK hq)
        |(go_at_call 96;refine (next_as _ _ _ _ _ _ _ _ _ _ _ HP.out HT).mono ?_;rintro e w3 ⟨rfl,hb⟩;have HB:=Lib.hid (bl_alloc (o:= .cells #[.int .i64 1,.int .i64 n,.string S,.int .i64 at_] 155) hb);have hx:=(Bx.new w3 #[.int .i64 1,.int .i64 n,.string S,.int .i64 at_] 155);have HX3:=Lib.hid hx;have hlt:=hb.size;have hpl:=HP.out.lt;clear hx hb)
        |(go_at_call 141;refine (pass_any _ _ _ _ _ _ _ _ (HP.out.below HB.out)).mono ?_;rintro e w4 hq;obtain ⟨v,a4,cp4,rfl,rfl,hP4,hK4⟩:=hq.yes;have hx:=HX3.out.keep hK4 (by omega);have k1:=hx.cell 1 rfl;have HP4:=Lib.hid hP4;have HK4:=Lib.hid ((HK.out.trans (.of_below HB.out)).trans hK4);clear hx hP4 hK4 hq))
      go_ret
      exact .mkY rfl (by show _=_;first|rw [←hw];rfl|rfl) HP4.out HK4.out
  · have hk2:(k !=1)=true:=by simpa using hk
    have hR:numM E L= .bad at_ 21:=by
      unfold numM
      have e:num1 E M= .bad at_ 21:=by rw [num1_bad (by rw [ht];exact hk),ht]
      rw [hb]
      cases b with
      |true=>
        rw [if_pos rfl] at hM⊢
        rw [hM,e];rfl
      |false=>
        rw [if_neg (by decide)] at hM⊢
        rw [hM,e]
    rw [hR]
    clear h hb hM hs hz ht hR hlo hhi hk
    go_enter Tryz.func229,Tryz.ntmps229
    go_wp2_with (first
        |(go_at_call 164;refine (may_as _ _ _ _ _ _ _ _ _ _ H.out HM).mono ?_;rintro e w2 hq;obtain ⟨v,a2,cp2,rfl,rfl,hP,hK⟩:=hq.yes;have HP:=Lib.hid hP;have HK:=Lib.hid hK;clear hP hK hq)
        |(go_at_call 96;refine (next_as _ _ _ _ _ _ _ _ _ _ _ HP.out HT).mono ?_;rintro e w3 ⟨rfl,hb⟩;have HB:=Lib.hid (bl_alloc (o:= .cells #[.int .i64 k,.int .i64 n,.string S,.int .i64 at_] 155) hb);clear hb)
        |(go_at_call 97;refine (fault_as _ _ _ _ _ _ _ _ _ (HP.out.below HB.out) HX).mono ?_;rintro e w4 ⟨rfl,hb⟩;have HB4:=Lib.hid (bl_step HB.out hb);clear hb))
    exact ⟨rfl,.mkN rfl (HK.out.trans (.of_below HB4.out))⟩
end Go.Proofs.YtkfihhagcimcmaaGreatDoor.Ps
namespace Go.Proofs.YtkfihhagcimcmaaGreatDoor.Ps
open Go.RowKit
open Lx (Tok bl_alloc)
theorem Keep.grown' {p:Nat} {w w':World} (h:Keep p w w'):w.grownBy w' (some p):=⟨h.os,h.tape,h.output,h.size,fun k hk hB=>h.block k hk (fun e=>hB (by rw [e]))⟩
theorem owns_keep {w w':World} {base E s n p:Nat} {v:Value} {xs:List Value} (h:w.ownsRow base E s v n xs) (hk:Keep p w w') (hp:p<base):w'.ownsRow base E s v n xs:=
  h.kept hk.grown' (by
    cases hv:v.ownBlock with
    |none=>exact .inl rfl
    |some g=>exact .inr (fun e=>by cases e;have:=own_base h p hv;omega))
def VP (B:Nat) (w:World) (xs:List ByteArray) (v:Value):Prop:=∃a n c,v= .slice a n c∧Nm.StrRow w a n xs∧(0<n→∀b off,a=some ⟨b,off,none⟩→B≤b)
def PathAt (E:Int) (R:Res (List ByteArray)) (acc:List ByteArray) (L:List Tok):Prop:=∃g,L.length<g∧pathF E g acc L=R
def NameAt (E:Int) (R:Res (List ByteArray)) (acc:List ByteArray) (M:List Tok):Prop:=∃g,M.length≤g∧path1 (pathF E g) E acc M=R
theorem PathAt.go {E:Int} {R:Res (List ByteArray)} {acc:List ByteArray} {L:List Tok} (h:PathAt E R acc L):(acc.length=0→NameAt E R acc L)∧(¬acc.length=0→isB [46] L=true→NameAt E R acc L.tail)∧(¬acc.length=0→isB [46] L=false→R= .ok acc L):=by
  obtain ⟨g,hg,h⟩:=h
  cases g with
  |zero=>omega
  |succ g=>
    rw [pathF] at h
    refine ⟨fun h0=>⟨g,by omega,by rw [if_pos h0] at h;exact h⟩,fun h0 hb=>⟨g,by have:=(List.tail_suffix L).length_le;omega,by rw [if_neg h0,if_pos hb] at h;exact h⟩,fun h0 hb=>by rw [if_neg h0,if_neg (by simp [hb])] at h;exact h.symm⟩
theorem NameAt.bad {E:Int} {R:Res (List ByteArray)} {acc:List ByteArray} {M:List Tok} {a x:Int} (h:NameAt E R acc M) (hn:nameM E M= .bad a x):R= .bad a x:=by
  obtain ⟨g,hg,h⟩:=h
  unfold path1 at h
  unfold nameM at hn
  split at hn
  · cases hn
  · rw [if_neg (by assumption)] at h;injection hn with e1 e2;rw [←h,e1,e2]
theorem NameAt.many {E:Int} {R:Res (List ByteArray)} {acc:List ByteArray} {M M':List Tok} {s:ByteArray} (h:NameAt E R acc M) (hn:nameM E M= .ok s M') (h16:acc.length=16):R= .bad (pk E M).at_ 4:=by
  obtain ⟨g,hg,h⟩:=h
  unfold path1 at h
  unfold nameM at hn
  split at hn
  · rw [if_pos (by assumption),if_pos h16] at h;exact h.symm
  · cases hn
theorem NameAt.step {E:Int} {R:Res (List ByteArray)} {acc:List ByteArray} {M M':List Tok} {s:ByteArray} (h:NameAt E R acc M) (hn:nameM E M= .ok s M') (h16:¬acc.length=16):M'=M∧∃t T,M=t::T∧PathAt E R (acc++[s]) T:=by
  obtain ⟨g,hg,h⟩:=h
  unfold path1 at h
  unfold nameM at hn
  split at hn
  · rename_i hb
    rw [if_pos hb,if_neg h16] at h
    cases hn
    obtain ⟨t,T,rfl,_,_⟩:=nameB_cons hb
    exact ⟨rfl,t,T,rfl,g,by simp at hg;omega,h⟩
  · cases hn
theorem nameM_size {E:Int} {M M':List Tok} {s:ByteArray} (hok:OkL M) (hn:nameM E M= .ok s M'):s.size≤4096:=by
  unfold nameM at hn
  split at hn
  · cases hn;rw [bs_size];exact (pk_ok hok E).1
  · cases hn
theorem name_as (w:World) (p cap:Nat) (a:Option Addr) (L:List Tok) (E o:Int) (r:Res ByteArray) (h:Prs w p a cap L E o) (hn:Hid (nameM E L=r)):Calls Tryz.prog 142 #[.pointer (some ⟨p,0,none⟩)] w (PostR VS w p E o r):=by
  rw [←hn.out];exact name_any w p cap a L E o h
set_option maxRecDepth 100000 in
set_option maxHeartbeats 4000000 in
theorem path_any (w:World) (p cap:Nat) (a:Option Addr) (L:List Tok) (E o:Int) (h:Prs w p a cap L E o):Calls Tryz.prog 232 #[.pointer (some ⟨p,0,none⟩)] w (PostR (VP w.heap.size) w p E o (pathF E (L.length+1) [] L)):=by
  obtain ⟨R,hR⟩:∃R,pathF E (L.length+1) [] L=R:=⟨_,rfl⟩
  rw [hR]
  have HA:Hid (PathAt E R [] L):=Lib.hid ⟨_,by omega,hR⟩
  have H:=Lib.hid h
  have hpl:=h.lt
  obtain ⟨i0,hi,hz0,hz1,hz2⟩:=info_parts info9
  have HI:=Lib.hid hi
  have HZ0:=Lib.hid hz0
  have HZ1:=Lib.hid hz1
  have HZ2:=Lib.hid hz2
  clear hi hz0 hz1 hz2 hR h
  go_enter Tryz.func232,Tryz.ntmps232
  go_wp2_with fail
  go_loopw [3] (fun v wr=>∃(acc:List ByteArray) (M:List Tok) (a':Option Addr) (cp:Nat),acc.length≤16∧Hid (wr.ownsRow w.heap.size 9 1 v acc.length (acc.map Value.string)∧∀x∈acc,x.size≤4096)∧Hid (PathAt E R acc M)∧Hid (Prs wr p a' cp M E o)∧Hid (Keep p w wr)) (fun _ wr=>leftN wr p)
  case atStart=>exact ⟨[],L,a,cap,by decide,⟨World.ownsRow_nil _ _ _ _,fun x hx=>absurd hx (by simp)⟩,HA.out,H.out,Keep.refl _ _⟩
  case round=>
    obtain ⟨acc,M,a',cp,h16,hO,hA,hP,hK⟩:=hrel
    rename World=>wr
    obtain ⟨ra,rc,rfl,hS⟩:=row_own hO.out.1 (by omega) (fun x hx=>by have:=hO.out.2 x hx;omega)
    have HS:=Lib.hid hS
    clear hS
    have hsz:∀(M' M2:List Tok) (x:ByteArray),M'<:+M→nameM E M'= .ok x M2→x.size≤4096:=fun M' M2 x hs hn=>nameM_size (hP.out.ok.suf hs) hn
    by_cases h0:acc.length=0
    · obtain rfl:acc=[]:=List.length_eq_zero_iff.1 h0
      have HA0:=Lib.hid (hA.out.go.1 rfl)
      cases hn:nameM E M with
      |bad x y=>
        have HN:=Lib.hid hn
        have HR:=Lib.hid (HA0.out.bad hn)
        clear hn h0 hA
        go_wp2_with (go_at_call 142;refine (name_as _ _ _ _ _ _ _ _ hP.out HN).mono ?_;rintro e w3 hq;obtain ⟨rfl,hK3⟩:=hq.no;have HK3:=Lib.hid (hK.out.trans hK3);clear hK3 hq)
        exact ⟨rfl,.mkN HR.out HK3.out⟩
      |ok s M'=>
        have HN:=Lib.hid hn
        obtain ⟨rfl,t,T,rfl,hPA⟩:=HA0.out.step hn (by decide)
        have HPA:=Lib.hid hPA
        have HSZ:=Lib.hid (hsz _ _ _ List.suffix_rfl hn)
        clear hn h0 hA hPA hsz
        go_wp2_with (first
          |(go_at_call 142;refine (name_as _ _ _ _ _ _ _ _ hP.out HN).mono ?_;rintro e w3 hq;obtain ⟨v,a3,cp3,rfl,rfl,hP3,hK3⟩:=hq.yes;have HP3:=Lib.hid hP3;have HK3:=Lib.hid (hK.out.trans hK3);have HO3:=Lib.hid (owns_keep hO.out.1 hK3 hpl);clear hP3 hK3 hq)
          |(go_at_call 141;refine (pass_any _ _ _ _ _ _ _ _ HP3.out).mono ?_;rintro e w4 hq;obtain ⟨v,a4,cp4,rfl,rfl,hP4,hK4⟩:=hq.yes;have HP4:=Lib.hid hP4;have HK4:=Lib.hid (HK3.out.trans hK4);have HO4:=Lib.hid (owns_keep HO3.out hK4 hpl);have hz4:=HK4.out.size;clear hP4 hK4 hq)
          |(at_builtin;refine wpList_append_own _ rfl _ _ 31 rfl w.heap.size 9 i0 _ 1 16 Tryz.underlying31 HI.out HZ0.out HZ1.out HZ2.out rfl (by decide) _ _ _ rfl (HO4.out.alloc _) ⟨w4.heap.size,0,none⟩ 1 1 [.string s] rfl rfl (cell_one_new _ _ _) (fun u hu=>by rw [List.mem_singleton.1 hu];rfl) (by unfold maxLen;omega) (by omega) (by simp;omega) ?_))
        intro v' w5 hown' hgrow hnil
        have HO5:=Lib.hid (show w5.ownsRow w.heap.size 9 1 v' (([]:List ByteArray)++[s]).length ((([]:List ByteArray)++[s]).map Value.string) by rw [List.map_append,List.length_append];exact hown')
        have hne:∀k,(Value.slice ra 0 rc).ownBlock=some k→w.heap.size≤k:=own_base HO4.out
        have HK5:=Lib.hid ((HK4.out.alloc (.cells #[.string s] 9)).grown hgrow hne)
        have HP5:=Lib.hid ((HP4.out.below (bl_alloc (o:= .cells #[.string s] 9) (Below.refl _ _))).grown hgrow (fun k hk=>by have:=hne k hk;omega))
        have HZ5:=Lib.hid (show ∀x∈([]:List ByteArray)++[s],x.size≤4096 from fun x hx=>(List.mem_append.1 hx).elim (hO.out.2 x) (fun hx=>by rw [List.mem_singleton.1 hx];exact HSZ.out))
        clear hown' hgrow hnil hne
        go_wp2_with fail
        go_roundw
        case rel=>exact ⟨([]:List ByteArray)++[s],T,a4,cp4,by simp<;>omega,Lib.hid ⟨HO5.out,HZ5.out⟩,HPA,HP5,HK5⟩
        case measure=>rw [HP5.out.leftN,hP.out.leftN];simp
    · have HA1:=hA.out.go.2
      cases hb:isB [46] M with
      |false=>
        have HM:Hid (isB (ByteArray.toList ⟨#[46]⟩) M=false∧(if false then M.tail else M)=M):=Lib.hid ⟨(isL [46] M).trans hb,rfl⟩
        have HR:=Lib.hid (HA1.2 h0 hb)
        have hn0:((acc.length:Int)==0)=false:=by simpa using h0
        clear hb HA1 hsz
        go_wp2_with (go_at_call 164;refine (may_as _ _ _ _ _ _ _ _ _ _ hP.out HM).mono ?_;rintro e w2 hq;obtain ⟨v,a2,cp2,rfl,rfl,hP2,hK2⟩:=hq.yes;have HP2:=Lib.hid hP2;have HK2:=Lib.hid (hK.out.trans hK2);have HO2:=Lib.hid (owns_keep hO.out.1 hK2 hpl);have HS2:=Lib.hid (str_keep hP.out.noStr hK2 HS.out);clear hP2 hK2 hq)
        go_ret
        exact .mkY HR.out ⟨_,_,_,rfl,HS2.out,fun _ b off e=>by subst e;exact own_base hO.out.1 b (by simp [Value.ownBlock])⟩ HP2.out HK2.out
      |true=>
        obtain ⟨t0,M0,rfl,_,_⟩:=isB_cons hb
        have HM:Hid (isB (ByteArray.toList ⟨#[46]⟩) (t0::M0)=true∧(if true then (t0::M0).tail else (t0::M0))=M0):=Lib.hid ⟨(isL [46] _).trans hb,rfl⟩
        have HA0:Hid (NameAt E R acc M0):=Lib.hid (HA1.1 h0 hb)
        have hn0:((acc.length:Int)==0)=false:=by simpa using h0
        clear hb HA1
        cases hn:nameM E M0 with
        |bad x y=>
          have HN:=Lib.hid hn
          have HR:=Lib.hid (HA0.out.bad hn)
          clear hn h0 hA hsz
          go_wp2_with (first
            |(go_at_call 164;refine (may_as _ _ _ _ _ _ _ _ _ _ hP.out HM).mono ?_;rintro e w2 hq;obtain ⟨v,a2,cp2,rfl,rfl,hP2,hK2⟩:=hq.yes;have HP2:=Lib.hid hP2;have HK2:=Lib.hid (hK.out.trans hK2);have HO2:=Lib.hid (owns_keep hO.out.1 hK2 hpl);have HS2:=Lib.hid (str_keep hP.out.noStr hK2 HS.out);clear hP2 hK2 hq)
            |(go_at_call 142;refine (name_as _ _ _ _ _ _ _ _ HP2.out HN).mono ?_;rintro e w3 hq;obtain ⟨rfl,hK3⟩:=hq.no;have HK3:=Lib.hid (HK2.out.trans hK3);clear hK3 hq))
          exact ⟨rfl,.mkN HR.out HK3.out⟩
        |ok s M'=>
          have HN:=Lib.hid hn
          by_cases h17:acc.length=16
          · have HR:=Lib.hid (HA0.out.many hn h17)
            have HX:Hid ((pk E M').at_=(pk E M0).at_):=Lib.hid (by have hn2:=hn;unfold nameM at hn2;split at hn2<;>cases hn2;rfl)
            have h18:((acc.length:Int)==16)=true:=by rw [h17];rfl
            clear hn h0 hA hsz h17
            go_wp2_with (first
              |(go_at_call 164;refine (may_as _ _ _ _ _ _ _ _ _ _ hP.out HM).mono ?_;rintro e w2 hq;obtain ⟨v,a2,cp2,rfl,rfl,hP2,hK2⟩:=hq.yes;have HP2:=Lib.hid hP2;have HK2:=Lib.hid (hK.out.trans hK2);have HO2:=Lib.hid (owns_keep hO.out.1 hK2 hpl);have HS2:=Lib.hid (str_keep hP.out.noStr hK2 HS.out);clear hP2 hK2 hq)
              |(go_at_call 142;refine (name_as _ _ _ _ _ _ _ _ HP2.out HN).mono ?_;rintro e w3 hq;obtain ⟨v,a3,cp3,rfl,rfl,hP3,hK3⟩:=hq.yes;have HP3:=Lib.hid hP3;have HK3:=Lib.hid (HK2.out.trans hK3);have HO3:=Lib.hid (owns_keep HO2.out hK3 hpl);clear hP3 hK3 hq)
              |(go_at_call 97;refine (fault_as _ _ _ _ _ _ _ _ _ HP3.out HX).mono ?_;rintro e w4 ⟨rfl,hb⟩;have HB4:=Lib.hid hb;clear hb))
            exact ⟨rfl,.mkN HR.out (HK3.out.trans (.of_below HB4.out))⟩
          · obtain ⟨rfl,t,T,rfl,hPA⟩:=HA0.out.step hn h17
            have HPA:=Lib.hid hPA
            have HSZ:=Lib.hid (hsz _ _ _ (List.suffix_cons _ _) hn)
            have h18:((acc.length:Int)==16)=false:=by simp;omega
            clear hn h0 hA hPA hsz
            go_wp2_with (first
              |(go_at_call 164;refine (may_as _ _ _ _ _ _ _ _ _ _ hP.out HM).mono ?_;rintro e w2 hq;obtain ⟨v,a2,cp2,rfl,rfl,hP2,hK2⟩:=hq.yes;have HP2:=Lib.hid hP2;have HK2:=Lib.hid (hK.out.trans hK2);have HO2:=Lib.hid (owns_keep hO.out.1 hK2 hpl);have HS2:=Lib.hid (str_keep hP.out.noStr hK2 HS.out);clear hP2 hK2 hq)
              |(go_at_call 142;refine (name_as _ _ _ _ _ _ _ _ HP2.out HN).mono ?_;rintro e w3 hq;obtain ⟨v,a3,cp3,rfl,rfl,hP3,hK3⟩:=hq.yes;have HP3:=Lib.hid hP3;have HK3:=Lib.hid (HK2.out.trans hK3);have HO3:=Lib.hid (owns_keep HO2.out hK3 hpl);clear hP3 hK3 hq)
              |(go_at_call 141;refine (pass_any _ _ _ _ _ _ _ _ HP3.out).mono ?_;rintro e w4 hq;obtain ⟨v,a4,cp4,rfl,rfl,hP4,hK4⟩:=hq.yes;have HP4:=Lib.hid hP4;have HK4:=Lib.hid (HK3.out.trans hK4);have HO4:=Lib.hid (owns_keep HO3.out hK4 hpl);have hz4:=HK4.out.size;clear hP4 hK4 hq)
              |(at_builtin;refine wpList_append_own _ rfl _ _ 31 rfl w.heap.size 9 i0 _ 1 16 Tryz.underlying31 HI.out HZ0.out HZ1.out HZ2.out rfl (by decide) _ _ _ rfl (HO4.out.alloc _) ⟨w4.heap.size,0,none⟩ 1 1 [.string s] rfl rfl (cell_one_new _ _ _) (fun u hu=>by rw [List.mem_singleton.1 hu];rfl) (by unfold maxLen;omega) (by omega) (by simp;omega) ?_))
            intro v' w5 hown' hgrow hnil
            have HO5:=Lib.hid (show w5.ownsRow w.heap.size 9 1 v' (acc++[s]).length ((acc++[s]).map Value.string) by rw [List.map_append,List.length_append];exact hown')
            have hne:∀k,(Value.slice ra acc.length rc).ownBlock=some k→w.heap.size≤k:=own_base HO4.out
            have HK5:=Lib.hid ((HK4.out.alloc (.cells #[.string s] 9)).grown hgrow hne)
            have HP5:=Lib.hid ((HP4.out.below (bl_alloc (o:= .cells #[.string s] 9) (Below.refl _ _))).grown hgrow (fun k hk=>by have:=hne k hk;omega))
            have HZ5:=Lib.hid (show ∀x∈acc++[s],x.size≤4096 from fun x hx=>(List.mem_append.1 hx).elim (hO.out.2 x) (fun hx=>by rw [List.mem_singleton.1 hx];exact HSZ.out))
            clear hown' hgrow hnil hne
            go_wp2_with fail
            go_roundw
            case rel=>exact ⟨acc++[s],T,a4,cp4,by simp<;>omega,Lib.hid ⟨HO5.out,HZ5.out⟩,HPA,HP5,HK5⟩
            case measure=>rw [HP5.out.leftN,hP.out.leftN];simp;omega
end Go.Proofs.YtkfihhagcimcmaaGreatDoor.Ps
namespace Go.Proofs.YtkfihhagcimcmaaGreatDoor.Ps
open Go.RowKit
def InB (P:Nat→Prop) (w:World):Nat→Hd→Ex→Prop
  |0,_,_=>False
  |n+1,h,.mk op m s path ps o ks=>h.op=op∧h.n=m∧h.s=s∧h.o=o∧s.size≤140737488355328∧Nm.StrRow w h.p h.pl path∧InPs (InB P w n) w h.q h.ql ps∧InKs (InB P w n) w h.k h.kl ks∧
    (0<h.pl→∀b off,h.p=some ⟨b,off,none⟩→P b)∧(0<h.ql→∀b off,h.q=some ⟨b,off,none⟩→P b)∧(0<h.kl→∀b off,h.k=some ⟨b,off,none⟩→P b)
theorem InB.inx {P:Nat→Prop} {w:World}:∀{n:Nat} {h:Hd} {x:Ex},InB P w n h x→InX w n h x
  |0,_,_,h=>h.elim
  |n+1,h,.mk op m s pa ps o ks,⟨h1,h2,h3,h4,h5,h6,h7,h8,_⟩=>by
    refine ⟨h1,h2,h3,h4,h5,h6,⟨h7.count,h7.max,fun i hi=>?_⟩,⟨h8.count,h8.max,fun i hi=>?_⟩⟩
    · obtain ⟨b,off,y,e,lt,hz,hc,hx,hI⟩:=h7.at_ i hi
      exact ⟨b,off,y,e,lt,hz,hc,hx,hI.inx⟩
    · obtain ⟨b,off,y,e,lt,hx,hI⟩:=h8.at_ i hi
      exact ⟨b,off,y,e,lt,hx,hI.inx⟩
theorem cell_of {w w':World} {b:Nat} (h:w'.heap[b]?=w.heap[b]?) (o:Nat):w'.cell? ⟨b,o,none⟩=w.cell? ⟨b,o,none⟩:=by simp only [World.cell?,h]
theorem HdAt.of {w w':World} {b off:Nat} {h:Hd} (hh:HdAt w b off h) (e:w'.heap[b]?=w.heap[b]?):HdAt w' b off h:=
  ⟨(cell_of e _).trans hh.c0,(cell_of e _).trans hh.c1,(cell_of e _).trans hh.c2,(cell_of e _).trans hh.c3,(cell_of e _).trans hh.c4,(cell_of e _).trans hh.c5,(cell_of e _).trans hh.c6⟩
theorem str_of {w w':World} {a:Option Addr} {len:Nat} {xs:List ByteArray} (h:Nm.StrRow w a len xs) (hz:w.heap.size≤w'.heap.size) (e:0<len→∀b off,a=some ⟨b,off,none⟩→w'.heap[b]?=w.heap[b]?):Nm.StrRow w' a len xs:=by
  obtain ⟨h1,h2,h3,h4⟩:=h
  refine ⟨h1,h2,h3,fun h0=>?_⟩
  obtain ⟨b,off,ea,hlt,hc⟩:=h4 h0
  exact ⟨b,off,ea,Nat.lt_of_lt_of_le hlt hz,fun i x hx=>(cell_of (e h0 b off ea) _).trans (hc i x hx)⟩
theorem InB.turn {P Q:Nat→Prop} {w w':World} (hz:w.heap.size≤w'.heap.size) (hb:∀b,b<w.heap.size→P b→w'.heap[b]?=w.heap[b]?∧Q b):∀{n:Nat} {h:Hd} {x:Ex},InB P w n h x→InB Q w' n h x
  |0,_,_,h=>h.elim
  |n+1,h,.mk op m s pa ps o ks,⟨h1,h2,h3,h4,h5,h6,h7,h8,b1,b2,b3⟩=>by
    have l1:0<h.pl→∀b off,h.p=some ⟨b,off,none⟩→b<w.heap.size:=fun h0 b off e=>by
      obtain ⟨b',off',e',lt,_⟩:=h6.at_ h0
      rw [e] at e';cases e';exact lt
    have l2:0<h.ql→∀b off,h.q=some ⟨b,off,none⟩→b<w.heap.size:=fun h0 b off e=>by
      obtain ⟨b',off',y,e',lt,_⟩:=h7.at_ 0 (by rw [h7.count];exact h0)
      rw [e] at e';cases e';exact lt
    have l3:0<h.kl→∀b off,h.k=some ⟨b,off,none⟩→b<w.heap.size:=fun h0 b off e=>by
      obtain ⟨b',off',y,e',lt,_⟩:=h8.at_ 0 (by rw [h8.count];exact h0)
      rw [e] at e';cases e';exact lt
    refine ⟨h1,h2,h3,h4,h5,str_of h6 hz (fun h0 b off e=>(hb b (l1 h0 b off e) (b1 h0 b off e)).1),⟨h7.count,h7.max,fun i hi=>?_⟩,⟨h8.count,h8.max,fun i hi=>?_⟩,fun h0 b off e=>(hb b (l1 h0 b off e) (b1 h0 b off e)).2,fun h0 b off e=>(hb b (l2 h0 b off e) (b2 h0 b off e)).2,fun h0 b off e=>(hb b (l3 h0 b off e) (b3 h0 b off e)).2⟩
    · obtain ⟨b,off,y,e,lt,hs,hc,hx,hI⟩:=h7.at_ i hi
      have hp:=b2 (by have:=h7.count;omega) b off e
      exact ⟨b,off,y,e,Nat.lt_of_lt_of_le lt hz,hs,(cell_of (hb b lt hp).1 _).trans hc,HdAt.of hx (hb b lt hp).1,hI.turn hz hb⟩
    · obtain ⟨b,off,y,e,lt,hx,hI⟩:=h8.at_ i hi
      have hp:=b3 (by have:=h8.count;omega) b off e
      exact ⟨b,off,y,e,Nat.lt_of_lt_of_le lt hz,HdAt.of hx (hb b lt hp).1,hI.turn hz hb⟩
theorem InB.le {P:Nat→Prop} {w:World}:∀{n m:Nat} {h:Hd} {x:Ex},InB P w n h x→n≤m→InB P w m h x
  |0,_,_,_,h,_=>h.elim
  |n+1,0,_,_,_,h=>absurd h (by omega)
  |n+1,m+1,h,.mk op nn s pa ps o ks,⟨h1,h2,h3,h4,h5,h6,h7,h8,h9⟩,hle=>
    ⟨h1,h2,h3,h4,h5,h6,⟨h7.count,h7.max,fun i hi=>by
      obtain ⟨b,off,y,e,lt,hz,hc,hx,hI⟩:=h7.at_ i hi
      exact ⟨b,off,y,e,lt,hz,hc,hx,hI.le (by omega)⟩⟩,⟨h8.count,h8.max,fun i hi=>by
      obtain ⟨b,off,y,e,lt,hx,hI⟩:=h8.at_ i hi
      exact ⟨b,off,y,e,lt,hx,hI.le (by omega)⟩⟩,h9⟩
def XB (P:Nat→Prop) (w:World) (h:Hd) (x:Ex):Prop:=InB P w (lev x) h x
theorem XB.xw {P:Nat→Prop} {w:World} {h:Hd} {x:Ex} (hx:XB P w h x):XW w h x:=InB.inx hx
theorem XB.turn {P Q:Nat→Prop} {w w':World} {h:Hd} {x:Ex} (hx:XB P w h x) (hz:w.heap.size≤w'.heap.size) (hb:∀b,b<w.heap.size→P b→w'.heap[b]?=w.heap[b]?∧Q b):XB Q w' h x:=InB.turn hz hb hx
theorem XB.below {P:Nat→Prop} {w w':World} {h:Hd} {x:Ex} (hx:XB P w h x) (hb:Below w.heap.size w w'):XB P w' h x:=hx.turn hb.size fun b lt hp=>⟨hb.block b lt,hp⟩
theorem XB.keep {P:Nat→Prop} {w w':World} {h:Hd} {x:Ex} {p:Nat} (hx:XB P w h x) (hk:Keep p w w') (hp:¬P p):XB P w' h x:=hx.turn hk.size fun b lt hb=>⟨hk.block b lt (fun e=>by subst e;exact hp hb),hb⟩
theorem XB.less {P Q:Nat→Prop} {w:World} {h:Hd} {x:Ex} (hx:XB P w h x) (hq:∀b,b<w.heap.size→P b→Q b):XB Q w h x:=hx.turn (Nat.le_refl _) fun b lt hp=>⟨rfl,hq b lt hp⟩
theorem str_nil (w:World):Nm.StrRow w none 0 []:=⟨rfl,by decide,fun i x h=>(by cases h),fun h=>absurd h (by decide)⟩
theorem ps_nil (I:Hd→Ex→Prop) (w:World):InPs I w none 0 []:=⟨rfl,by decide,fun i h=>absurd h (by simp)⟩
theorem ks_nil (I:Hd→Ex→Prop) (w:World):InKs I w none 0 []:=⟨rfl,by decide,fun i h=>absurd h (by simp)⟩
theorem lev_leaf (op n:Int) (s:ByteArray) (pa:List ByteArray) (o:Bool):lev (.mk op n s pa [] o [])=1:=by rw [lev,levP,levK];rfl
theorem XB.leaf {P:Nat→Prop} {w:World} (op n:Int) (s:ByteArray) (hs:s.size≤140737488355328) {a:Option Addr} {l c:Nat} {pa:List ByteArray} (hpa:Nm.StrRow w a l pa) (hP:0<l→∀b off,a=some ⟨b,off,none⟩→P b):XB P w ⟨op,n,s,a,l,c,none,0,0,false,none,0,0⟩ (.mk op n s pa [] false []):=by
  unfold XB
  rw [lev_leaf]
  exact ⟨rfl,rfl,rfl,rfl,hs,hpa,ps_nil _ _,ks_nil _ _,hP,fun h=>absurd h (Nat.lt_irrefl 0),fun h=>absurd h (Nat.lt_irrefl 0)⟩
theorem XB.lf {P:Nat→Prop} {w:World} (op n:Int):XB P w ⟨op,n,⟨#[]⟩,none,0,0,none,0,0,false,none,0,0⟩ (Ps.leaf op n):=
  XB.leaf op n _ (by decide) (str_nil w) (fun h=>absurd h (by decide))
theorem XB.kids {P:Nat→Prop} {w:World} (op:Int) {a:Option Addr} {l c:Nat} {ks:List Ex} (hk:InKs (XB P w) w a l ks) (hP:0<l→∀b off,a=some ⟨b,off,none⟩→P b):XB P w ⟨op,0,⟨#[]⟩,none,0,0,none,0,0,false,a,l,c⟩ (.mk op 0 ⟨#[]⟩ [] [] false ks):=by
  unfold XB
  rw [show lev (.mk op 0 ⟨#[]⟩ [] [] false ks)=levK ks+1 by rw [lev,levP];omega]
  refine ⟨rfl,rfl,rfl,rfl,by decide,str_nil _,ps_nil _ _,⟨hk.count,hk.max,fun i hi=>?_⟩,fun h=>absurd h (Nat.lt_irrefl 0),fun h=>absurd h (Nat.lt_irrefl 0),hP⟩
  obtain ⟨b,off,y,e,lt,hx,hI⟩:=hk.at_ i hi
  exact ⟨b,off,y,e,lt,hx,InB.le hI (lev_k (List.getElem_mem hi))⟩
theorem row_built {w:World} {base:Nat} (hb:base≤w.heap.size) {cs:Array Value} {L:List HX} {n:Nat} (hn:n=L.length) (hc:cs=(hcells L).toArray) (hm:n≤1000000):(w.alloc (.cells cs 35)).ownsRow base 35 7 (.slice (some ⟨w.heap.size,0,none⟩) n n) n (hcells L):=by
  subst hn hc
  exact ⟨by rw [hcells_len],.inr ⟨w.heap.size,L.length,_,rfl,hb,Lx.heap_new w _,Nat.le_refl _,by unfold maxLen;omega,by rw [List.size_toArray,hcells_len],by rw [List.take_of_length_le (by rw [hcells_len];exact Nat.le_refl _)]⟩⟩
def VX (B:Nat) (w:World) (x:Ex) (v:Value):Prop:=∃h:Hd,v=h.agg∧XB (fun b=>B≤b) w h x
end Go.Proofs.YtkfihhagcimcmaaGreatDoor.Ps
namespace Go.Proofs.YtkfihhagcimcmaaGreatDoor.Ps
open Go.RowKit
open Lx (bl_alloc)
def TwP (P:Nat→Prop) (x:Ex) (w:World) (e:Ending) (w':World):Prop:=∃h:Hd,e= .returned h.agg∧XB (fun b=>P b∨w.heap.size≤b) w' h x∧Below w.heap.size w w'
set_option maxRecDepth 100000 in
set_option maxHeartbeats 4000000 in
theorem two_any (P:Nat→Prop) (w:World) (op:Int) (h1 h2:Hd) (x y:Ex) (hx:XB P w h1 x) (hy:XB P w h2 y):Calls Tryz.prog 222 #[.int .i64 op,h1.agg,h2.agg] w (TwP P (two op x y) w):=by
  have HX:=Lib.hid hx
  have HY:=Lib.hid hy
  obtain ⟨op1,nn1,s1,p1,pl1,pc1,q1,ql1,qc1,o1,k1,kl1,kc1⟩:=h1
  obtain ⟨op2,nn2,s2,p2,pl2,pc2,q2,ql2,qc2,o2,k2,kl2,kc2⟩:=h2
  clear hx hy
  unfold Hd.agg
  dsimp only
  go_enter Tryz.func222,Tryz.ntmps222
  go_wp2
  have hB:=bl_alloc (o:= .cells #[.int .i64 op,.int .i64 0,.string ⟨#[]⟩,.slice none 0 0,.slice none 0 0,.bool false,.slice (some ⟨w.heap.size+1+1+1,0,none⟩) 2 2] 35) (bl_alloc (o:= .cells #[.int .i64 op2,.int .i64 nn2,.string s2,.slice p2 pl2 pc2,.slice q2 ql2 qc2,.bool o2,.slice k2 kl2 kc2] 35) (bl_alloc (o:= .cells #[.int .i64 op1,.int .i64 nn1,.string s1,.slice p1 pl1 pc1,.slice q1 ql1 qc1,.bool o1,.slice k1 kl1 kc1] 35) (Below.refl w.heap.size w)))
  refine bodyPost_ret (v:= .agg #[.int .i64 op,.int .i64 0,.string ⟨#[]⟩,.slice none 0 0,.slice none 0 0,.bool false,.slice (some ⟨w.heap.size+1+1+1,0,none⟩) 2 2]) (by simp [results,Tryz.results222,go_sem]) rfl ?_
  have hz:(((w.alloc (.cells #[.int .i64 op1,.int .i64 nn1,.string s1,.slice p1 pl1 pc1,.slice q1 ql1 qc1,.bool o1,.slice k1 kl1 kc1] 35)).alloc (.cells #[.int .i64 op2,.int .i64 nn2,.string s2,.slice p2 pl2 pc2,.slice q2 ql2 qc2,.bool o2,.slice k2 kl2 kc2] 35)).alloc (.cells #[.int .i64 op,.int .i64 0,.string ⟨#[]⟩,.slice none 0 0,.slice none 0 0,.bool false,.slice (some ⟨w.heap.size+1+1+1,0,none⟩) 2 2] 35)).heap.size=w.heap.size+1+1+1:=by simp
  generalize (((w.alloc (.cells #[.int .i64 op1,.int .i64 nn1,.string s1,.slice p1 pl1 pc1,.slice q1 ql1 qc1,.bool o1,.slice k1 kl1 kc1] 35)).alloc (.cells #[.int .i64 op2,.int .i64 nn2,.string s2,.slice p2 pl2 pc2,.slice q2 ql2 qc2,.bool o2,.slice k2 kl2 kc2] 35)).alloc (.cells #[.int .i64 op,.int .i64 0,.string ⟨#[]⟩,.slice none 0 0,.slice none 0 0,.bool false,.slice (some ⟨w.heap.size+1+1+1,0,none⟩) 2 2] 35))=W at*
  have hBW:=bl_alloc (o:= .cells #[.int .i64 op1,.int .i64 nn1,.string s1,.slice p1 pl1 pc1,.slice q1 ql1 qc1,.bool o1,.slice k1 kl1 kc1,.int .i64 op2,.int .i64 nn2,.string s2,.slice p2 pl2 pc2,.slice q2 ql2 qc2,.bool o2,.slice k2 kl2 kc2] 35) hB
  have hx:=(HX.out.below hBW).less (Q:=fun b=>P b∨w.heap.size≤b) (fun _ _ h=> .inl h)
  have hy:=(HY.out.below hBW).less (Q:=fun b=>P b∨w.heap.size≤b) (fun _ _ h=> .inl h)
  have hr:=row_built (w:=W) (base:=w.heap.size) hB.size (cs:=#[.int .i64 op1,.int .i64 nn1,.string s1,.slice p1 pl1 pc1,.slice q1 ql1 qc1,.bool o1,.slice k1 kl1 kc1,.int .i64 op2,.int .i64 nn2,.string s2,.slice p2 pl2 pc2,.slice q2 ql2 qc2,.bool o2,.slice k2 kl2 kc2]) (L:=[(⟨op1,nn1,s1,p1,pl1,pc1,q1,ql1,qc1,o1,k1,kl1,kc1⟩,x),(⟨op2,nn2,s2,p2,pl2,pc2,q2,ql2,qc2,o2,k2,kl2,kc2⟩,y)]) (n:=2) rfl rfl (by decide)
  obtain ⟨a,c,e,hK⟩:=row_ks (I:=XB (fun b=>P b∨w.heap.size≤b) (W.alloc (.cells #[.int .i64 op1,.int .i64 nn1,.string s1,.slice p1 pl1 pc1,.slice q1 ql1 qc1,.bool o1,.slice k1 kl1 kc1,.int .i64 op2,.int .i64 nn2,.string s2,.slice p2 pl2 pc2,.slice q2 ql2 qc2,.bool o2,.slice k2 kl2 kc2] 35))) hr rfl (by decide) (fun z hz=>by
    simp only [List.mem_cons,List.not_mem_nil,or_false] at hz
    rcases hz with rfl|rfl
    · exact hx
    · exact hy)
  rw [hz] at e
  injection e with e1 e2 e3
  subst e1 e3
  exact ⟨⟨op,0,⟨#[]⟩,none,0,0,none,0,0,false,_,2,2⟩,rfl,XB.kids op hK (fun _ b off e=>by cases e;exact .inr (by omega)),hBW⟩
end Go.Proofs.YtkfihhagcimcmaaGreatDoor.Ps
namespace Go.Proofs.YtkfihhagcimcmaaGreatDoor.Ps
open Go.RowKit
open Lx (Tok bs bl_alloc bl_step)
def lfv (op n:Int):Value:= .agg #[.int .i64 op,.int .i64 n,.string ⟨#[]⟩,.slice none 0 0,.slice none 0 0,.bool false,.slice none 0 0]
theorem not_any (L:List UInt8):((L==[98,111,111,108])=true→(L==[97,110,121])=false)∧((L==[105,110,116])=true→(L==[97,110,121])=false)∧((L==[115,116,114,105,110,103])=true→(L==[97,110,121])=false):=by
  refine ⟨fun h=>?_,fun h=>?_,fun h=>?_⟩
  all_goals
    rw [show L=_ from eq_of_beq h]
    decide
def put7 (w:World) (b:Nat) (v0 v1 v2 v3 v4 v5 v6:Value):World:=((((((w.setCell ⟨b,0,none⟩ v0).setCell ⟨b,1,none⟩ v1).setCell ⟨b,2,none⟩ v2).setCell ⟨b,3,none⟩ v3).setCell ⟨b,4,none⟩ v4).setCell ⟨b,5,none⟩ v5).setCell ⟨b,6,none⟩ v6
theorem put7_grown (w:World) (b:Nat) (v0 v1 v2 v3 v4 v5 v6:Value):w.grownBy (put7 w b v0 v1 v2 v3 v4 v5 v6) (some b):=by
  unfold put7
  have g:∀(w:World) (i:Nat) (v:Value),w.grownBy (w.setCell ⟨b,i,none⟩ v) (some b):=fun w i v=>⟨rfl,rfl,rfl,by simp [World.setCell],fun k hk hne=>Below.heap_setCell w ⟨b,i,none⟩ v k (fun e=>hne (by rw [e]))⟩
  exact ((((((g _ 0 v0).trans (g _ 1 v1)).trans (g _ 2 v2)).trans (g _ 3 v3)).trans (g _ 4 v4)).trans (g _ 5 v5)).trans (g _ 6 v6)
theorem put7_bx {w:World} {b:Nat} {t:TypeId} {u0 u1 u2 u3 u4 u5 u6 v0 v1 v2 v3 v4 v5 v6:Value} (h:Bx w b #[u0,u1,u2,u3,u4,u5,u6] t):Bx (put7 w b v0 v1 v2 v3 v4 v5 v6) b #[v0,v1,v2,v3,v4,v5,v6] t:=by
  have:=((((((h.set (i:=0) (v:=v0)).set (i:=1) (v:=v1)).set (i:=2) (v:=v2)).set (i:=3) (v:=v3)).set (i:=4) (v:=v4)).set (i:=5) (v:=v5)).set (i:=6) (v:=v6)
  simp only [List.setIfInBounds_toArray,List.set_cons_succ,List.set_cons_zero] at this
  exact this
set_option maxRecDepth 100000 in
set_option maxHeartbeats 4000000 in
theorem meaning_any (s:ByteArray) (w:World):Calls Tryz.prog 237 #[.string s] w (Ans (lfv (meanL s.toList).1 (meanL s.toList).2) w):=by
  go_enter Tryz.func237,Tryz.ntmps237
  go_wp2
  all_goals
    refine bodyPost_ret (v:=lfv (meanL s.toList).1 (meanL s.toList).2) (by simp only [meanL,lfv, *];simp [results,Tryz.results237,go_sem]) rfl ⟨rfl,bl_alloc (Below.refl _ _)⟩
set_option maxRecDepth 100000 in
set_option maxHeartbeats 4000000 in
theorem rword_any (s:ByteArray) (w:World):Calls Tryz.prog 169 #[.string s] w (Ans (lfv (meanL s.toList).1 (meanL s.toList).2) w):=by
  go_enter Tryz.func169,Tryz.ntmps169
  go_wp2
  all_goals
    refine bodyPost_ret (v:=lfv (meanL s.toList).1 (meanL s.toList).2) (by have hn:=not_any s.toList;(try simp only [*,Bool.false_eq_true,forall_const,false_implies] at hn);simp only [meanL,lfv, *];simp [results,Tryz.results169,go_sem]) rfl ⟨rfl,bl_alloc (Below.refl _ _)⟩
theorem meaning_as (s:ByteArray) (m n:Int) (w:World) (h:Hid (meanL s.toList=(m,n))):Calls Tryz.prog 237 #[.string s] w (Ans (lfv m n) w):=by
  have:=meaning_any s w
  rw [h.out] at this
  exact this
set_option maxRecDepth 100000 in
set_option maxHeartbeats 4000000 in
theorem word_any (w:World) (p cap:Nat) (a:Option Addr) (t:Tok) (M:List Tok) (E o:Int) (h:Prs w p a cap (t::M) E o):Calls Tryz.prog 233 #[.pointer (some ⟨p,0,none⟩)] w (PostR (VX w.heap.size) w p E o (wordM t M)):=by
  obtain ⟨⟨k,n,s⟩,at_⟩:=t
  obtain ⟨S,hS⟩:∃S,bs s=S:=⟨_,rfl⟩
  have hS2:s=S.toList:=by rw [←hS,Lx.bs_list]
  subst hS2
  clear hS
  have HT:Hid (pk E (⟨⟨k,n,S.toList⟩,at_⟩::M)=⟨⟨k,n,S.toList⟩,at_⟩):=Lib.hid rfl
  have HX:Hid ((pk E (⟨⟨k,n,S.toList⟩,at_⟩::M)).at_=at_):=Lib.hid rfl
  have H:=Lib.hid h
  have HF:=field_t
  unfold wordM
  dsimp only
  obtain ⟨⟨m,x⟩,hm⟩:∃q,meanL S.toList=q:=⟨_,rfl⟩
  rw [hm]
  have HM:=Lib.hid hm
  clear h hm
  dsimp only
  have HB0:=Lib.hid (bl_alloc (o:= .cells #[.int .i64 0,.int .i64 0,.string ⟨#[]⟩,.slice none 0 0,.slice none 0 0,.bool false,.slice none 0 0] 35) (Below.refl w.heap.size w))
  have hx0:=Lib.hid (Bx.new w #[.int .i64 0,.int .i64 0,.string ⟨#[]⟩,.slice none 0 0,.slice none 0 0,.bool false,.slice none 0 0] 35)
  have hpl:=H.out.lt
  by_cases h0:m=0
  · subst h0
    rw [if_pos rfl]
    go_enter Tryz.func233,Tryz.ntmps233
    go_wp2_with (first
      |(go_at_call 96;refine (next_as _ _ _ _ _ _ _ _ _ _ _ (H.out.below HB0.out) HT).mono ?_;rintro e w2 ⟨rfl,hb⟩;have HB:=Lib.hid (bl_step HB0.out hb);clear hb)
      |(go_at_call 237;refine (meaning_as _ _ _ _ HM).mono ?_;unfold lfv;rintro e w3 ⟨rfl,hb⟩;have HB3:=Lib.hid (bl_step HB.out hb);have HB4:=Lib.hid (bl_alloc (o:= .cells #[.int .i64 0,.int .i64 x,.string ⟨#[]⟩,.slice none 0 0,.slice none 0 0,.bool false,.slice none 0 0] 35) (bl_step HB.out hb));clear hb)
      |(go_at_call 97;refine (fault_as _ _ _ _ _ _ _ _ _ (H.out.below HB4.out) HX).mono ?_;rintro e w4 ⟨rfl,hb⟩;have HB5:=Lib.hid (bl_step HB4.out hb);clear hb))
    exact ⟨rfl,.mkN rfl (.of_below HB5.out)⟩
  · have h1:(m==0)=false:=by simpa using h0
    rw [if_neg h0]
    clear h0
    go_enter Tryz.func233,Tryz.ntmps233
    go_wp2_with (first
      |(go_at_call 96;refine (next_as _ _ _ _ _ _ _ _ _ _ _ (H.out.below HB0.out) HT).mono ?_;rintro e w2 ⟨rfl,hb⟩;have HB:=Lib.hid (bl_step HB0.out hb);have HX0:=Lib.hid (hx0.out.below hb);clear hb)
      |(go_at_call 237;refine (meaning_as _ _ _ _ HM).mono ?_;unfold lfv;rintro e w3 ⟨rfl,hb⟩;have hx:=(Bx.new w3 #[.int .i64 m,.int .i64 x,.string ⟨#[]⟩,.slice none 0 0,.slice none 0 0,.bool false,.slice none 0 0] 35);have HX1:=Lib.hid hx;have HX2:=Lib.hid ((HX0.out.below hb).old (.cells #[.int .i64 m,.int .i64 x,.string ⟨#[]⟩,.slice none 0 0,.slice none 0 0,.bool false,.slice none 0 0] 35));have HB4:=Lib.hid (bl_alloc (o:= .cells #[.int .i64 m,.int .i64 x,.string ⟨#[]⟩,.slice none 0 0,.slice none 0 0,.bool false,.slice none 0 0] 35) (bl_step HB.out hb));have hz3:=(bl_step HB.out hb).size;clear hb hx)
      | (go_at_call 141; refine (pass_any _ _ _ _ _ _ _ _ (H.out.below HB4.out)).mono ?_; rintro e w4 hq; obtain ⟨v, a4, cp4, rfl, rfl, hP4, hK4⟩ := hq.yes
         have q1:=HX1.out.keep hK4 (by omega)
         have q2:=HX2.out.keep hK4 (by omega)
         have c0:=q1.cell 0 rfl;have c1:=q1.cell 1 rfl;have c2:=q1.cell 2 rfl;have c3:=q1.cell 3 rfl;have c4:=q1.cell 4 rfl;have c5:=q1.cell 5 rfl;have c6:=q1.cell 6 rfl
         have m0:=q2.cell 0 rfl;have m1:=q2.cell 1 rfl;have m2:=q2.cell 2 rfl;have m3:=q2.cell 3 rfl;have m4:=q2.cell 4 rfl;have m5:=q2.cell 5 rfl;have m6:=q2.cell 6 rfl
         have mf:=q2.fz
         have HP4:=Lib.hid hP4;have HK4:=Lib.hid ((Keep.of_below HB4.out).trans hK4)
         clear q1 q2 hq hP4 hK4))
    refine bodyPost_ret (v:=lfv m x) (by simp [lfv,results,Tryz.results233,go_sem,m0,m1,m2,m3,m4,m5,m6]) rfl ?_
    have hg:=put7_grown w4 w.heap.size (.int .i64 m) (.int .i64 x) (.string ⟨#[]⟩) (.slice none 0 0) (.slice none 0 0) (.bool false) (.slice none 0 0)
    exact .mkY rfl ⟨_,rfl,XB.lf _ _⟩ (HP4.out.grown hg (fun k e=>by cases e;exact hpl)) (HK4.out.grown hg (fun k e=>by cases e;exact Nat.le_refl _))
end Go.Proofs.YtkfihhagcimcmaaGreatDoor.Ps
