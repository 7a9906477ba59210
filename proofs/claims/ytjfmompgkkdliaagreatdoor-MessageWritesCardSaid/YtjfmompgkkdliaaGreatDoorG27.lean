/- Part of the proof. -/
import Derived.Test.YtjfmompgkkdliaaGreatDoorG26
import Derived.Test.YtjfmompgkkdliaaGreatDoorG07
import Derived.Test.YtjfmompgkkdliaaGreatDoorG06
import Derived.Test.YtjfmompgkkdliaaGreatDoorG09
import Derived.Test.YtjfmompgkkdliaaGreatDoorG04
import Derived.Test.YtjfmompgkkdliaaGreatDoorG03
import Derived.Deep.MidRow
import Derived.Test.YtjfmompgkkdliaaGreatDoorProg
import Derived.Test.YtjfmompgkkdliaaGreatDoorG19
import Derived.Test.YtjfmompgkkdliaaGreatDoorG02
import Derived.WalkKit
import Derived.Test.YtjfmompgkkdliaaGreatDoorG10
import Derived.Deep.RegionHeld3
open Go.Lib (hid)
set_option maxRecDepth 100000
set_option maxHeartbeats 40000000
namespace Go.Proofs.YtjfmompgkkdliaaGreatDoor
namespace Upd
open Oct Att PR
def wellB (h:Int):Bool:=hasB h 1 && hasB h 2 && hasB h 3
theorem wellN_yes {h:Int} (hw:wellB h=true):wellN h=⟨0,0,[]⟩:=by
 unfold wellB at hw
 simp only [Bool.and_eq_true] at hw
 obtain ⟨⟨h1,h2⟩,h3⟩:=hw
 unfold wellN
 rw [if_neg (by rw [h1];decide),if_neg (by rw [h2];decide),if_neg (by rw [h3];decide)]
theorem wellN_no {h:Int} (hw:wellB h=false):∃ k:Nat,1≤k∧k≤3∧wellN h=⟨3,3,[k]⟩:=by
 unfold wellN
 by_cases h1:hasB h 1=false
 ·exact ⟨1,by omega,by omega,if_pos h1⟩
 ·rw [if_neg h1]
  by_cases h2:hasB h 2=false
  ·exact ⟨2,by omega,by omega,if_pos h2⟩
  ·rw [if_neg h2]
   by_cases h3:hasB h 3=false
   ·exact ⟨3,by omega,by omega,if_pos h3⟩
   ·unfold wellB at hw
    simp only [Bool.not_eq_false] at h1 h2 h3
    rw [h1,h2,h3] at hw
    cases hw
def goodU (u:Up):Bool:=u.gone.all good && u.here.all good && (if u.here=[] then sameA u.at_ zeroA else goodA u.at_ && wellB u.at_.has)
def encU (u:Up):List Nat:=big (encs u.gone).length 2 ++ encs u.gone ++ big (encA u.at_).length 2 ++ encA u.at_ ++ encs u.here
def form1:No:=⟨3,1,[]⟩
def decU3 (g:List Pf) (a:At) (d:List Nat):No ⊕ Up:=if d=[] then .inr ⟨g,zeroA,[]⟩ else if wellB a.has=false then .inl (wellN a.has) else match dec val d with
 | none=>.inl ⟨3,10,[]⟩
 | some h=>.inr ⟨g,a,h⟩
def decU2 (g:List Pf) (r:No ⊕ At) (d:List Nat):No ⊕ Up:=match r with
 | .inl n=>.inl n
 | .inr a=>decU3 g a d
def decU1 (g:Option (List Pf)) (c:List Nat):No ⊕ Up:=match g with
 | none=>.inl form1
 | some g=>if c.length<2 then .inl form1 else if c.length<2+val (c.take 2) then .inl form1 else decU2 g (decodeA ((c.drop 2).take (val (c.take 2)))) (c.drop (2+val (c.take 2)))
def decU (b:List Nat):No ⊕ Up:=if b.length<2 then .inl form1 else if b.length<2+val (b.take 2) then .inl form1 else decU1 (dec val ((b.drop 2).take (val (b.take 2)))) (b.drop (2+val (b.take 2)))
def outU:No ⊕ Up→Up × No
 | .inl n=>(zeroU,n)
 | .inr u=>(u,⟨0,0,[]⟩)
end Upd
namespace Msg
open Oct Att PR Opn Upd Ntc Frm
structure Ms where
 kind:Int
 op:Opn.Op
 up:Up
 no:No
instance:DecidableEq Opn.Op:=fun p q=>if h:p.an=q.an∧p.hold=q.hold∧p.ri=q.ri∧p.four=q.four then isTrue (by
  obtain ⟨a,n,r,f⟩:=p
  obtain ⟨b,m,s,g⟩:=q
  obtain ⟨h1,h2,h3,h4⟩:=h
  dsimp only at h1 h2 h3 h4
  rw [h1,h2,h3,h4]) else isFalse (fun e=>h (by rw [e];exact ⟨rfl,rfl,rfl,rfl⟩))
def zeroM:Ms:=⟨0,zeroO,zeroU,noN⟩
def goodM (m:Ms):Bool:=(decide (m.kind=1) && goodO m.op) || (decide (m.kind=2) && goodU m.up) || (decide (m.kind=3) && goodN m.no) || decide (m.kind=4)
theorem good_kind {m:Ms} (h:goodM m=true):m.kind=1∧goodO m.op=true∨m.kind=2∧goodU m.up=true∨m.kind=3∧goodN m.no=true∨m.kind=4:=by
 unfold goodM at h
 simpa [or_assoc] using h
def onlyM (m:Ms):Ms:=⟨if 1≤m.kind∧m.kind≤4 then m.kind else 0,if m.kind=1 then m.op else zeroO,if m.kind=2 then m.up else zeroU,if m.kind=3 then m.no else noN⟩
def sameM (a b:Ms):Bool:=decide (a.kind=b.kind) && decide (a.op=b.op) && sameU a.up b.up && sameN a.no b.no
theorem sameM_iff {a b:Ms}:sameM a b=true ↔ a=b:=by
 obtain ⟨a1,a2,a3,a4⟩:=a
 obtain ⟨b1,b2,b3,b4⟩:=b
 unfold sameM
 simp only [Bool.and_eq_true,decide_eq_true_eq,sameU_iff,sameN_iff,Ms.mk.injEq,and_assoc]
def bodyM (m:Ms):List Nat:=if m.kind=1 then encO m.op else if m.kind=2 then encU m.up else if m.kind=3 then encN m.no else []
def ntcB (b:List Nat):Bool:=decide (2≤b.length∧b[0]?≠some 0∧b.length≤4077)
def ntcD (b:List Nat):No:=⟨((b[0]?).getD 0:Nat),((b[1]?).getD 0:Nat),b.drop 2⟩
def rawM (k:Int) (b:List Nat):Ms × No :=
 if k=1 then (⟨1,(outO (decO b)).1,zeroU,noN⟩,(outO (decO b)).2)
 else if k=2 then (⟨2,zeroO,(outU (decU b)).1,noN⟩,(outU (decU b)).2)
 else if k=3 then (if ntcB b then (⟨3,zeroO,zeroU,ntcD b⟩,noN) else (⟨3,zeroO,zeroU,noN⟩,⟨1,2,[]⟩))
 else if k=4 then (if b=[] then (⟨4,zeroO,zeroU,noN⟩,noN) else (⟨4,zeroO,zeroU,noN⟩,⟨1,2,[]⟩))
 else (⟨k,zeroO,zeroU,noN⟩,⟨1,3,[]⟩)
def decM (k:Int) (b:List Nat):Ms × No:=if (rawM k b).2.code=0 then rawM k b else (zeroM,(rawM k b).2)
def readL (bad:No):List Pc→List Ms × Nat × No
 | []=>([],0,bad)
 | (t,b) :: p=>if (decM t b).2.code=0 then ((decM t b).1 :: (readL bad p).1,19+b.length+(readL bad p).2.1,(readL bad p).2.2) else ([],0,(decM t b).2)
def readM (b:List Nat):List Ms × Nat × No:=readL (pcs b).2.2 (pcs b).1
end Msg
namespace Msg
open Go.RowKit Mem Oct Att PR Opn Upd Ntc Frm
def ocells (o:Opn.Op):List Value:=[.int .u32 o.an,.int .i64 o.hold,.int .u32 o.ri,.bool o.four]
def mcells (k:Int) (O U N:List Value):List Value:=.int .i64 k :: (O ++ (U ++ N))
theorem mcells_len {k:Int} {O U N:List Value} (hO:O.length=4) (hU:U.length=11) (hN:N.length=3):(mcells k O U N).length=19:=by simp [mcells,hO,hU,hN]
structure Parts (O U N:List Value):Prop where
 lo:O.length=4
 lu:U.length=11
 ln:N.length=3
 oo:∀ v∈O,v.oneCell'=true
 ou:∀ v∈U,v.oneCell'=true
 on:∀ v∈N,v.oneCell'=true
 n8:∀ v,v∈O∨v∈U∨v∈N→No8 v
def Msgs (W:World) (v:Value) (m:Ms):Prop:=∃ U N,v=.agg (mcells m.kind (ocells m.op) U N).toArray∧Parts (ocells m.op) U N∧m.op.ok∧Upds W (.agg U.toArray) m.up∧Note W (.agg N.toArray) m.no
theorem Msgs.keep {W W':World} {v:Value} {m:Ms} (h:Msgs W v m) (hb:Below W.heap.size W W'):Msgs W' v m:=by
 obtain ⟨U,N,h1,h2,h3,h4,h5⟩:=h
 exact ⟨U,N,h1,h2,h3,h4.keep hb,h5.keep hb⟩
theorem Parts.cells {O U N:List Value} (h:Parts O U N) (k:Int):∀ v∈mcells k O U N,v.oneCell'=true:=fun v hv=>by
 simp only [mcells,List.mem_cons,List.mem_append] at hv
 rcases hv with rfl | hv | hv | hv
 ·rfl
 ·exact h.oo v hv
 ·exact h.ou v hv
 ·exact h.on v hv
theorem mcells_at {k:Int} {O U N:List Value} (h:Parts O U N):(∀ (j:Nat) (v:Value),O[j]?=some v→(mcells k O U N)[1+j]?=some v)∧(∀ (j:Nat) (v:Value),U[j]?=some v→(mcells k O U N)[5+j]?=some v)∧(∀ (j:Nat) (v:Value),N[j]?=some v→(mcells k O U N)[16+j]?=some v):=by
 refine ⟨fun j v hv=>?_,fun j v hv=>?_,fun j v hv=>?_⟩
 ·have:=(List.getElem?_eq_some_iff.1 hv).1
  rw [Nat.add_comm]
  show (O ++ (U ++ N))[j]?=_
  rw [List.getElem?_append_left this,hv]
 ·have:=(List.getElem?_eq_some_iff.1 hv).1
  rw [show 5+j=(4+j)+1 by omega]
  show (O ++ (U ++ N))[4+j]?=_
  rw [List.getElem?_append_right (by rw [h.lo];omega),h.lo,Nat.add_sub_cancel_left,List.getElem?_append_left this,hv]
 ·rw [show 16+j=(15+j)+1 by omega]
  show (O ++ (U ++ N))[15+j]?=_
  rw [List.getElem?_append_right (by rw [h.lo];omega),h.lo,List.getElem?_append_right (by rw [h.lu];omega),h.lu,show 15+j - 4 - 11=j by omega,hv]
theorem agg_inj {A B:List Value} (h:Value.agg A.toArray=Value.agg B.toArray):A=B:=by
 injection h with h
 simpa using h
theorem cells_off (b:Nat):∀ (vs:List Value) (o:Nat) (W:World),(∀ k,k≠b→(W.setCells b o vs).heap[k]?=W.heap[k]?)∧(W.setCells b o vs).heap.size=W.heap.size
 | [],_,_=>⟨fun _ _=>rfl,rfl⟩
 | v :: vs,o,W=>by
  have h:=cells_off b vs (o+1) (W.setCell ⟨b,o,none⟩ v)
  exact ⟨fun k hk=>(h.1 k hk).trans (Go.RowKit.Below.heap_setCell _ _ _ _ (show k≠(⟨b,o,none⟩:Addr).block from hk)),h.2.trans (by simp)⟩
structure BoxM (W:World) (B:Nat) (k:Int) (O U N:List Value):Prop where
 lt:B<W.heap.size
 parts:Parts O U N
 c0:W.cell? ⟨B,0,none⟩=some (.int .i64 k)
 rO:W.rangeAt B 1 O
 rU:W.rangeAt B 5 U
 rN:W.rangeAt B 16 N
 free:∀ i,W.frozen? ⟨B,i,none⟩=false
 top:∀ i,19≤i→W.cell? ⟨B,i,none⟩=none
section
variable {W W':World} {B:Nat} {k:Int} {O U N:List Value}
theorem BoxM.below (h:BoxM W B k O U N) (hb:W'.heap[B]?=W.heap[B]?) (hs:W.heap.size≤W'.heap.size):BoxM W' B k O U N:=by
 have hc:∀ i,W'.cell? ⟨B,i,none⟩=W.cell? ⟨B,i,none⟩:=fun i=>World.cell?_of_block hb
 refine ⟨Nat.lt_of_lt_of_le h.lt hs,h.parts,(hc _).trans h.c0,fun j v hv=>(hc _).trans (h.rO j v hv),fun j v hv=>(hc _).trans (h.rU j v hv),fun j v hv=>(hc _).trans (h.rN j v hv),fun i=>?_,fun i hi=>(hc i).trans (h.top i hi)⟩
 have:=h.free i
 unfold World.frozen? at this ⊢
 simp only [hb]
 exact this
theorem BoxM.keep (h:BoxM W B k O U N) (hb:Below W.heap.size W W'):BoxM W' B k O U N:=h.below (hb.block B h.lt) hb.size
theorem BoxM.whole (h:BoxM W B k O U N):W.rangeAt B 0 (mcells k O U N):=by
 have h1:=h.parts.lo
 have h2:=h.parts.lu
 intro j v hv
 rw [Nat.zero_add]
 unfold mcells at hv
 match j,hv with
 | 0,hv =>
  injection hv with hv
  rw [← hv];exact h.c0
 | j+1,hv =>
  rw [List.getElem?_cons_succ,List.getElem?_append] at hv
  split at hv
  ·rw [Nat.add_comm];exact h.rO j v hv
  ·rw [List.getElem?_append] at hv
   split at hv
   ·have:=h.rU _ v hv
    rwa [show 5+(j - O.length)=j+1 by omega] at this
   ·have:=h.rN _ v hv
    rwa [show 16+(j - O.length - U.length)=j+1 by omega] at this
theorem BoxM.there (h:BoxM W B k O U N) (o n:Nat) (hn:o+n≤19):W.there B o n:=fun j hj=>by
 refine ⟨?_,h.free _⟩
 have h1:=h.whole.isSome (o+j) (by rw [mcells_len h.parts.lo h.parts.lu h.parts.ln];omega)
 rwa [Nat.zero_add] at h1
theorem BoxM.new (W:World) (t:TypeId) (k:Int) (h:Parts O U N):BoxM (W.alloc (.cells (mcells k O U N).toArray t)) W.heap.size k O U N:=by
 have hb:(W.alloc (.cells (mcells k O U N).toArray t)).heap[W.heap.size]?=some (.cells (mcells k O U N).toArray t (0,0)):=heap_alloc_new _ _
 have hc:∀ i,(W.alloc (.cells (mcells k O U N).toArray t)).cell? ⟨W.heap.size,i,none⟩=(mcells k O U N)[i]?:=fun i=>by
  unfold World.cell?
  dsimp only
  rw [hb]
  simp
 obtain ⟨h3,h4,h5⟩:=mcells_at (k:=k) h
 exact ⟨by simp,h,(hc 0).trans rfl,fun j v hv=>(hc _).trans (h3 j v hv),fun j v hv=>(hc _).trans (h4 j v hv),fun j v hv=>(hc _).trans (h5 j v hv),fun i=>Go.Joins.unfrozen_of_block hb i,fun i hi=>(hc i).trans (List.getElem?_eq_none (by rw [mcells_len h.lo h.lu h.ln];exact hi))⟩
theorem BoxM.zero (h:BoxM W B k O U N) (o:Nat) (ho:1≤o) (vs:List Value):(W.setCells B o vs).cell? ⟨B,0,none⟩=some (.int .i64 k):=by
 rw [World.cell?_setCells_out B vs o W ⟨B,0,none⟩ (fun _ _=>.inl (by show 0<o;omega))]
 exact h.c0
theorem BoxM.above (h:BoxM W B k O U N) (o:Nat) (vs:List Value) (ho:o+vs.length≤19) (i:Nat) (hi:19≤i):(W.setCells B o vs).cell? ⟨B,i,none⟩=none:=by
 rw [World.cell?_setCells_out B vs o W ⟨B,i,none⟩ (fun _ _=>.inr (by show o+vs.length≤i;omega))]
 exact h.top i hi
theorem BoxM.setO (h:BoxM W B k O U N) {O2:List Value} (h2:Parts O2 U N):BoxM (W.setCells B 1 O2) B k O2 U N:=by
 have hl:=h2.lo
 exact ⟨by rw [(cells_off B O2 1 W).2];exact h.lt,h2,h.zero 1 (by omega) O2,World.rangeAt_setCells_same _ _ _ _ (by rw [hl];exact h.there 1 4 (by omega)),World.rangeAt_setCells_apart h.rU _ _ _ (.inr (.inr (by omega))),World.rangeAt_setCells_apart h.rN _ _ _ (.inr (.inr (by omega))),fun i=>by rw [World.frozen?_setCells];exact h.free i,h.above 1 O2 (by omega)⟩
theorem BoxM.setU (h:BoxM W B k O U N) {U2:List Value} (h2:Parts O U2 N):BoxM (W.setCells B 5 U2) B k O U2 N:=by
 have hl:=h2.lu
 have hl2:=h2.lo
 exact ⟨by rw [(cells_off B U2 5 W).2];exact h.lt,h2,h.zero 5 (by omega) U2,World.rangeAt_setCells_apart h.rO _ _ _ (.inr (.inl (by omega))),World.rangeAt_setCells_same _ _ _ _ (by rw [hl];exact h.there 5 11 (by omega)),World.rangeAt_setCells_apart h.rN _ _ _ (.inr (.inr (by omega))),fun i=>by rw [World.frozen?_setCells];exact h.free i,h.above 5 U2 (by omega)⟩
theorem BoxM.setN (h:BoxM W B k O U N) {N2:List Value} (h2:Parts O U N2):BoxM (W.setCells B 16 N2) B k O U N2:=by
 have hl:=h2.ln
 have hl2:=h2.lo
 have hl3:=h2.lu
 exact ⟨by rw [(cells_off B N2 16 W).2];exact h.lt,h2,h.zero 16 (by omega) N2,World.rangeAt_setCells_apart h.rO _ _ _ (.inr (.inl (by omega))),World.rangeAt_setCells_apart h.rU _ _ _ (.inr (.inl (by omega))),World.rangeAt_setCells_same _ _ _ _ (by rw [hl];exact h.there 16 3 (by omega)),fun i=>by rw [World.frozen?_setCells];exact h.free i,h.above 16 N2 (by omega)⟩
theorem BoxM.setM (h:BoxM W B k O U N) {k2:Int} {O2 U2 N2:List Value} (h2:Parts O2 U2 N2):BoxM (W.setCells B 0 (mcells k2 O2 U2 N2)) B k2 O2 U2 N2:=by
 have hl:=mcells_len (k:=k2) h2.lo h2.lu h2.ln
 have hr:=World.rangeAt_setCells_same W B 0 (mcells k2 O2 U2 N2) (by rw [hl];exact h.there 0 19 (by omega))
 have hc:∀ j v,(mcells k2 O2 U2 N2)[j]?=some v→(W.setCells B 0 (mcells k2 O2 U2 N2)).cell? ⟨B,j,none⟩=some v:=fun j v hv=>by
  have:=hr j v hv
  rwa [Nat.zero_add] at this
 obtain ⟨h3,h4,h5⟩:=mcells_at (k:=k2) h2
 exact ⟨by rw [(cells_off B _ 0 W).2];exact h.lt,h2,hc 0 _ rfl,fun j v hv=>hc _ _ (h3 j v hv),fun j v hv=>hc _ _ (h4 j v hv),fun j v hv=>hc _ _ (h5 j v hv),fun i=>by rw [World.frozen?_setCells];exact h.free i,h.above 0 _ (by omega)⟩
theorem BoxM.no8 (h:BoxM W B k O U N) (i:Nat) (n:Int):W.cell? ⟨B,i,none⟩≠some (.int .u8 n):=fun e=>by
 have hl:=mcells_len (k:=k) h.parts.lo h.parts.lu h.parts.ln
 by_cases hi:i<19
 ·have h1:=h.whole i _ (List.getElem?_eq_getElem (by rw [hl];exact hi))
  rw [Nat.zero_add,e] at h1
  have h2:Value.int .u8 n∈mcells k O U N:=by
   rw [Option.some.inj h1]
   exact List.getElem_mem _
  simp only [mcells,List.mem_cons,List.mem_append] at h2
  rcases h2 with h2 | h2
  ·injection h2 with h2;cases h2
  ·exact h.parts.n8 _ h2 n rfl
 ·rw [h.top i (by omega)] at e
  cases e
end
end Msg
namespace Msg
open Go.RowKit Mem Oct Att
theorem box_msg (w:World) (cs:Array Value):Below w.heap.size w (w.alloc (.cells cs 36)):=(Below.refl _ w).alloc (Nat.le_refl _) _
structure Turned (B:Nat) (W W':World):Prop where
 os:W'.os=W.os
 tape:W'.tape=W.tape
 output:W'.output=W.output
 size:W'.heap.size=W.heap.size
 block:∀ k,k≠B→W'.heap[k]?=W.heap[k]?
theorem turned_cells (B:Nat):∀ (vs:List Value) (o:Nat) (W:World),Turned B W (W.setCells B o vs)
 | [],_,W=>⟨rfl,rfl,rfl,rfl,fun _ _=>rfl⟩
 | v :: vs,o,W=>by
  have h:=turned_cells B vs (o+1) (W.setCell ⟨B,o,none⟩ v)
  have h2:=(Below.refl 0 W).setCell (p:=⟨B,o,none⟩) (Nat.zero_le _) v
  exact ⟨h.os.trans h2.os,h.tape.trans h2.tape,h.output.trans h2.output,h.size.trans (by simp),fun k hk=>(h.block k hk).trans (Go.RowKit.Below.heap_setCell _ _ _ _ (show k≠(⟨B,o,none⟩:Addr).block from hk))⟩
theorem Turned.low {B n:Nat} {a W W':World} (h:Turned B W W') (hB:n≤B) (hb:Below n a W):Below n a W' :=
 ⟨h.os.trans hb.os,h.tape.trans hb.tape,h.output.trans hb.output,by rw [h.size];exact hb.size,fun k hk=>(h.block k (by omega)).trans (hb.block k hk)⟩
theorem BoxM.turned {B C:Nat} {W W':World} {k:Int} {O U N:List Value} (hb:BoxM W C k O U N) (h:Turned B W W') (hne:C≠B):BoxM W' C k O U N:=hb.below (h.block C hne) (Nat.le_of_eq h.size.symm)
section
variable {ops:Array Oper} {rest:List Oper} {op:Oper} {a:Act} {w:World} {Q:Exit→Act→World→Prop} {B:Nat} {k:Int} {O U N:List Value}
theorem load_row (hw:Region.wanted op (yielded ops a.tmps)=true) (ty:TypeId) (x:Operand) (ho:op.op=.load ty x) (o:Nat) (hx:a.eval x=.pointer (some ⟨B,o,none⟩)) (cs:List Value) (d:TypeDesc) (hc:w.rangeAt B o cs)
  (hu:Tryz.prog.underlying ty=some d) (hd:d.isRow=true) (hi:(Tryz.prog.info? ty).map (·.size)=some cs.length) (h:wpList Tryz.prog ops Q rest (a.put op.dst (.agg cs.toArray)) w):wpList Tryz.prog ops Q (op :: rest) a w:=by
 unfold wpList
 rw [if_pos hw]
 exact .inl (wp_load_mid ty x ho B o hx cs d hc hu hd hi h)
theorem load_o (hB:BoxM w B k O U N) (x:Operand) (ho:op.op=.load 24 x) (hx:a.eval x=.pointer (some ⟨B,1,none⟩)) (hw:Region.wanted op (yielded ops a.tmps)=true)
  (h:wpList Tryz.prog ops Q rest (a.put op.dst (.agg O.toArray)) w):wpList Tryz.prog ops Q (op :: rest) a w :=
 load_row hw _ x ho 1 hx O _ hB.rO Tryz.underlying24 rfl (by rw [hB.parts.lo];kernel_rfl) h
theorem load_u (hB:BoxM w B k O U N) (x:Operand) (ho:op.op=.load 31 x) (hx:a.eval x=.pointer (some ⟨B,5,none⟩)) (hw:Region.wanted op (yielded ops a.tmps)=true)
  (h:wpList Tryz.prog ops Q rest (a.put op.dst (.agg U.toArray)) w):wpList Tryz.prog ops Q (op :: rest) a w :=
 load_row hw _ x ho 5 hx U _ hB.rU Tryz.underlying31 rfl (by rw [hB.parts.lu];kernel_rfl) h
theorem load_n (hB:BoxM w B k O U N) (x:Operand) (ho:op.op=.load 34 x) (hx:a.eval x=.pointer (some ⟨B,16,none⟩)) (hw:Region.wanted op (yielded ops a.tmps)=true)
  (h:wpList Tryz.prog ops Q rest (a.put op.dst (.agg N.toArray)) w):wpList Tryz.prog ops Q (op :: rest) a w :=
 load_row hw _ x ho 16 hx N _ hB.rN Tryz.underlying34 rfl (by rw [hB.parts.ln];kernel_rfl) h
theorem load_m (hB:BoxM w B k O U N) (x:Operand) (ho:op.op=.load 36 x) (hx:a.eval x=.pointer (some ⟨B,0,none⟩)) (hw:Region.wanted op (yielded ops a.tmps)=true)
  (h:wpList Tryz.prog ops Q rest (a.put op.dst (.agg (mcells k O U N).toArray)) w):wpList Tryz.prog ops Q (op :: rest) a w :=
 load_row hw _ x ho 0 hx _ _ hB.whole Tryz.underlying36 rfl (by rw [mcells_len hB.parts.lo hB.parts.lu hB.parts.ln];kernel_rfl) h
theorem store_row (hw:Region.wanted op (yielded ops a.tmps)=true) (ty:TypeId) (x y:Operand) (ho:op.op=.store ty x y) (o:Nat) (cs:List Value) (hx:a.eval x=.pointer (some ⟨B,o,none⟩)) (hy:a.eval y=.agg cs.toArray)
  (ht:w.there B o cs.length) (hi:(Tryz.prog.info? ty).map (·.size)=some cs.length) (h1:∀ v∈cs,v.oneCell'=true) (h:wpList Tryz.prog ops Q rest (a.put op.dst undef) (w.setCells B o cs)):wpList Tryz.prog ops Q (op :: rest) a w:=by
 unfold wpList
 rw [if_pos hw]
 exact .inl (wp_store_mid ty x y ho B o cs.toArray hx hy (by simpa using ht) (by simpa using hi) (all_oneCell_toArray h1) h)
theorem store_o (hB:BoxM w B k O U N) {O2:List Value} (h2:Parts O2 U N) (x y:Operand) (ho:op.op=.store 24 x y) (hx:a.eval x=.pointer (some ⟨B,1,none⟩)) (hy:a.eval y=.agg O2.toArray) (hw:Region.wanted op (yielded ops a.tmps)=true)
  (h:∀ w',BoxM w' B k O2 U N→Turned B w w'→wpList Tryz.prog ops Q rest (a.put op.dst undef) w'):wpList Tryz.prog ops Q (op :: rest) a w :=
 store_row hw _ x y ho 1 O2 hx hy (by rw [h2.lo];exact hB.there 1 4 (by omega)) (by rw [h2.lo];kernel_rfl) h2.oo (h _ (hB.setO h2) (turned_cells _ _ _ _))
theorem store_u (hB:BoxM w B k O U N) {U2:List Value} (h2:Parts O U2 N) (x y:Operand) (ho:op.op=.store 31 x y) (hx:a.eval x=.pointer (some ⟨B,5,none⟩)) (hy:a.eval y=.agg U2.toArray) (hw:Region.wanted op (yielded ops a.tmps)=true)
  (h:∀ w',BoxM w' B k O U2 N→Turned B w w'→wpList Tryz.prog ops Q rest (a.put op.dst undef) w'):wpList Tryz.prog ops Q (op :: rest) a w :=
 store_row hw _ x y ho 5 U2 hx hy (by rw [h2.lu];exact hB.there 5 11 (by omega)) (by rw [h2.lu];kernel_rfl) h2.ou (h _ (hB.setU h2) (turned_cells _ _ _ _))
theorem store_n (hB:BoxM w B k O U N) {N2:List Value} (h2:Parts O U N2) (x y:Operand) (ho:op.op=.store 34 x y) (hx:a.eval x=.pointer (some ⟨B,16,none⟩)) (hy:a.eval y=.agg N2.toArray) (hw:Region.wanted op (yielded ops a.tmps)=true)
  (h:∀ w',BoxM w' B k O U N2→Turned B w w'→wpList Tryz.prog ops Q rest (a.put op.dst undef) w'):wpList Tryz.prog ops Q (op :: rest) a w :=
 store_row hw _ x y ho 16 N2 hx hy (by rw [h2.ln];exact hB.there 16 3 (by omega)) (by rw [h2.ln];kernel_rfl) h2.on (h _ (hB.setN h2) (turned_cells _ _ _ _))
theorem store_m (hB:BoxM w B k O U N) {k2:Int} {O2 U2 N2:List Value} (h2:Parts O2 U2 N2) (x y:Operand) (ho:op.op=.store 36 x y) (hx:a.eval x=.pointer (some ⟨B,0,none⟩)) (hy:a.eval y=.agg (mcells k2 O2 U2 N2).toArray) (hw:Region.wanted op (yielded ops a.tmps)=true)
  (h:∀ w',BoxM w' B k2 O2 U2 N2→Turned B w w'→wpList Tryz.prog ops Q rest (a.put op.dst undef) w'):wpList Tryz.prog ops Q (op :: rest) a w :=
 store_row hw _ x y ho 0 (mcells k2 O2 U2 N2) hx hy (by rw [mcells_len h2.lo h2.lu h2.ln];exact hB.there 0 19 (by omega)) (by rw [mcells_len h2.lo h2.lu h2.ln];kernel_rfl) (h2.cells k2) (h _ (hB.setM h2) (turned_cells _ _ _ _))
end
section
variable {ops:Array Oper} {rest:List Oper} {op:Oper} {a:Act} {w:World} {Q:Exit→Act→World→Prop} {B:Nat} {x0 x1 x2:Value}
theorem box3_there (h:Box3 w B 34 x0 x1 x2):w.there B 0 3:=fun j hj=>by
 refine ⟨?_,h.free _⟩
 obtain ⟨c0,c1,c2⟩:=h.cells
 match j,hj with
 | 0,_=>rw [c0];rfl
 | 1,_=>rw [c1];rfl
 | 2,_=>rw [c2];rfl
theorem box3_range (h:Box3 w B 34 x0 x1 x2):w.rangeAt B 0 [x0,x1,x2]:=fun j v hv=>by
 obtain ⟨c0,c1,c2⟩:=h.cells
 rw [Nat.zero_add]
 match j,hv with
 | 0,hv=>rw [← Option.some.inj hv];exact c0
 | 1,hv=>rw [← Option.some.inj hv];exact c1
 | 2,hv=>rw [← Option.some.inj hv];exact c2
theorem wp_store_b (hB:Box3 w B 34 x0 x1 x2) {y0 y1 y2:Value} (x y:Operand) {K:Act→World→Prop} (ho:op.op=.store 34 x y) (hx:a.eval x=.pointer (some ⟨B,0,none⟩)) (hy:a.eval y=.agg #[y0,y1,y2]) (h1:∀ v∈[y0,y1,y2],v.oneCell'=true)
  (h:∀ w',Box3 w' B 34 y0 y1 y2→Turned B w w'→K (a.put op.dst undef) w'):op.wp Tryz.prog a w K Q :=
 wp_store_mid _ x y ho B 0 #[y0,y1,y2] hx hy (box3_there hB) (by kernel_rfl) (all_oneCell_toArray h1) (h _ (hB.laid y0 y1 y2) (turned_cells B [y0,y1,y2] 0 w))
theorem store_b (hB:Box3 w B 34 x0 x1 x2) {y0 y1 y2:Value} (x y:Operand) (ho:op.op=.store 34 x y) (hx:a.eval x=.pointer (some ⟨B,0,none⟩)) (hy:a.eval y=.agg #[y0,y1,y2]) (h1:∀ v∈[y0,y1,y2],v.oneCell'=true) (hw:Region.wanted op (yielded ops a.tmps)=true)
  (h:∀ w',Box3 w' B 34 y0 y1 y2→Turned B w w'→wpList Tryz.prog ops Q rest (a.put op.dst undef) w'):wpList Tryz.prog ops Q (op :: rest) a w:=by
 unfold wpList
 rw [if_pos hw]
 exact .inl (wp_store_b hB x y ho hx hy h1 h)
theorem box3_turned {C:Nat} {t:TypeId} {w':World} (hb:Box3 w C t x0 x1 x2) (h:Turned B w w') (hne:C≠B):Box3 w' C t x0 x1 x2:=hb.below (fun k hk=>h.block k (by rw [hk];exact hne))
end
section
variable {ops:Array Oper} {op:Oper} {a:Act} {w:World} {Q:Exit→Act→World→Prop} {K:Act→World→Prop} {B:Nat} {k:Int} {O U N:List Value}
theorem wp_store_m (hB:BoxM w B k O U N) {k2:Int} {O2 U2 N2:List Value} (h2:Parts O2 U2 N2) (x y:Operand) (ho:op.op=.store 36 x y) (hx:a.eval x=.pointer (some ⟨B,0,none⟩)) (hy:a.eval y=.agg (mcells k2 O2 U2 N2).toArray)
  (h:∀ w',BoxM w' B k2 O2 U2 N2→Turned B w w'→K (a.put op.dst undef) w'):op.wp Tryz.prog a w K Q :=
 wp_store_mid _ x y ho B 0 (mcells k2 O2 U2 N2).toArray hx hy (by simpa [mcells_len h2.lo h2.lu h2.ln] using hB.there 0 19 (by omega)) (by simpa [mcells_len h2.lo h2.lu h2.ln] using (by kernel_rfl:(Tryz.prog.info? 36).map (·.size)=some 19)) (all_oneCell_toArray (h2.cells k2)) (h _ (hB.setM h2) (turned_cells _ _ _ _))
theorem tk_m {md:Region.Mode} {S:World→Prop} (i d:Nat) (x:Operand) {oi:Oper} {fuel:Nat} {listed:Array Bool} (hS:S w) (hB:∀ w,S w→BoxM w B k O U N) (h:wpAnyH Tryz.prog md ops Q S fuel (listed.setIfInBounds i true) (a.put (some d) (.agg (mcells k O U N).toArray)) w)
  (hp:Parts O U N) (ho:oi.op=.load 36 x) (hx:a.eval x=.pointer (some ⟨B,0,none⟩)) (hi:ops[i]?=some oi) (hd:oi.dst=some d) (hc:Take.nextOk md ops listed i=true) (hw:Region.wanted oi (yielded ops a.tmps)=true)
  (hQ:∀ c a w,Q (.panic c) (a.put (some d) (.agg (mcells k O U N).toArray)) w→Q (.panic c) a w):wpAnyH Tryz.prog md ops Q S (fuel+1) listed a w:=by
 unfold Take.nextOk at hc
 simp only [Bool.and_eq_true] at hc
 rw [← hd] at h
 exact wpAnyH_take hi hc.1 hc.2.1 hc.2.2 (fun c a w=>by rw [hd];exact hQ c a w) (yieldsIf_load_mid hw _ x ho B 0 hx _ _ (fun w hw=>(hB w hw).whole) Tryz.underlying36 rfl (by rw [mcells_len hp.lo hp.lu hp.ln];kernel_rfl)) hS h
end
theorem res_msg {fn:Func} {tmps:Array Value} {w:World} {t B:Nat} {k:Int} {O U N:List Value} (h:fn.results=#[.cell t 36]) (ht:tmps.getD t undef=.pointer (some ⟨B,0,none⟩)) (hB:BoxM w B k O U N) :
  (results fn tmps).run Tryz.prog w=.ok (.agg (mcells k O U N).toArray) w:=by
 have hl:=run_loadVar_mid w B 0 36 _ _ hB.whole Tryz.underlying36 rfl (by rw [mcells_len hB.parts.lo hB.parts.lu hB.parts.ln];kernel_rfl)
 rw [Array.getD_eq_getD_getElem?] at ht
 simp [results,h,ht,hl,asAddr]
theorem res_two {fn:Func} {tmps:Array Value} {w:World} {t s B C:Nat} {k:Int} {O U N:List Value} {x0 x1 x2:Value} (h:fn.results=#[.cell t 36,.cell s 34]) (ht:tmps.getD t undef=.pointer (some ⟨B,0,none⟩)) (hs:tmps.getD s undef=.pointer (some ⟨C,0,none⟩)) (hB:BoxM w B k O U N) (hC:Box3 w C 34 x0 x1 x2) :
  (results fn tmps).run Tryz.prog w=.ok (.tuple #[.agg (mcells k O U N).toArray,.agg #[x0,x1,x2]]) w:=by
 have hl:=run_loadVar_mid w B 0 36 _ _ hB.whole Tryz.underlying36 rfl (by rw [mcells_len hB.parts.lo hB.parts.lu hB.parts.ln];kernel_rfl)
 have hl2:=run_loadVar_mid w C 0 34 _ _ (box3_range hC) Tryz.underlying34 rfl (by kernel_rfl)
 rw [Array.getD_eq_getD_getElem?] at ht hs
 simp [results,h,ht,hs,hl,hl2,asAddr]
end Msg
namespace Msg
open Go.RowKit Mem Oct Att PR Opn Upd Ntc Frm
open Go.Lib (hid)
def zU:List Value:=[.slice none 0 0,.int .i64 0,.int .i64 0,.slice none 0 0,.int .u32 0,.int .u32 0,.int .u32 0,.int .u32 0,.int .u32 0,.slice none 0 0,.slice none 0 0]
def zN:List Value:=[.int .i64 0,.int .i64 0,.slice none 0 0]
theorem ones_o (o:Opn.Op):∀ v∈ocells o,v.oneCell'=true:=fun v hv=>by
 simp only [ocells,List.mem_cons,List.not_mem_nil,or_false] at hv
 rcases hv with rfl | rfl | rfl | rfl <;> rfl
theorem ones_zu:∀ v∈zU,v.oneCell'=true:=by decide
theorem ones_zn:∀ v∈zN,v.oneCell'=true:=by decide
theorem Parts.of {O U N O1 U1 N1 O2 U2 N2:List Value} (h:Parts O U1 N1) (h2:Parts O1 U N2) (h3:Parts O2 U2 N):Parts O U N:=⟨h.lo,h2.lu,h3.ln,h.oo,h2.ou,h3.on,fun v hv=>hv.elim (fun k=>h.n8 v (.inl k)) (fun k=>k.elim (fun k=>h2.n8 v (.inr (.inl k))) (fun k=>h3.n8 v (.inr (.inr k))))⟩
theorem no8_of {l:List Value} (h:l.all (fun v=>match v with | .int .u8 _=>false | _=>true)=true):∀ v∈l,No8 v:=fun v hv n e=>by
 have:=List.all_eq_true.1 h v hv
 rw [e] at this
 cases this
theorem parts_z (o:Opn.Op):Parts (ocells o) zU zN:=⟨rfl,rfl,rfl,ones_o o,ones_zu,ones_zn,fun v hv=>hv.elim (no8_of (by rfl) v) (fun k=>k.elim (no8_of (by rfl) v) (no8_of (by rfl) v))⟩
theorem upds_z (W:World):Upds W (.agg zU.toArray) zeroU:=upds_zero W
theorem note_z (W:World):Note W (.agg zN.toArray) noN:=⟨by decide,by decide,_,rfl,U8s.nil W⟩
theorem zeroO_ok:zeroO.ok:=⟨by decide,by decide,by decide⟩
def z19:Array Value:=#[.int .i64 0,.int .u32 0,.int .i64 0,.int .u32 0,.bool false,.slice none 0 0,.int .i64 0,.int .i64 0,.slice none 0 0,.int .u32 0,.int .u32 0,.int .u32 0,.int .u32 0,.int .u32 0,.slice none 0 0,.slice none 0 0,.int .i64 0,.int .i64 0,.slice none 0 0]
theorem z19_is:z19=(mcells 0 (ocells zeroO) zU zN).toArray:=rfl
structure OnSt (w:World) (C:Nat) (k:Int) (O U N:List Value) (k3:Int) (O3 U3 N3:List Value) (W:World):Prop where
 b1:BoxM W w.heap.size k O U N
 b2:BoxM W (w.heap.size+1) 0 (ocells zeroO) zU zN
 b3:BoxM W C k3 O3 U3 N3
 low:Below w.heap.size w W
 hC:w.heap.size+1<C
theorem OnSt.turn {w W W':World} {C:Nat} {k k3 k4:Int} {O U N O3 U3 N3 O4 U4 N4:List Value} (h:OnSt w C k O U N k3 O3 U3 N3 W) (hb:BoxM W' C k4 O4 U4 N4) (ht:Turned C W W'):OnSt w C k O U N k4 O4 U4 N4 W' :=
 have hC:=h.hC
 ⟨h.b1.turned ht (by omega),h.b2.turned ht (by omega),hb,ht.low (by omega) h.low,hC⟩
theorem on_start (w:World) {k:Int} {O U N:List Value} (h:Parts O U N):BoxM ((w.alloc (.cells (mcells k O U N).toArray 36)).alloc (.cells z19 36)) w.heap.size k O U N ∧
  BoxM ((w.alloc (.cells (mcells k O U N).toArray 36)).alloc (.cells z19 36)) (w.heap.size+1) 0 (ocells zeroO) zU zN∧Below w.heap.size w ((w.alloc (.cells (mcells k O U N).toArray 36)).alloc (.cells z19 36)):=by
 have b1:=box_msg w (mcells k O U N).toArray
 have b2:=box_msg (w.alloc (.cells (mcells k O U N).toArray 36)) z19
 have hs:(w.alloc (.cells (mcells k O U N).toArray 36)).heap.size=w.heap.size+1:=by simp
 have h2:=BoxM.new (w.alloc (.cells (mcells k O U N).toArray 36)) 36 0 (parts_z zeroO)
 rw [hs,← z19_is] at h2
 exact ⟨(BoxM.new w _ k h).keep b2,h2,b1.trans (b2.mono b1.size)⟩
def onlyV (m:Ms) (U N:List Value):Value:=.agg (mcells (onlyM m).kind (ocells (onlyM m).op) (if m.kind=2 then U else zU) (if m.kind=3 then N else zN)).toArray
theorem only_parts {m:Ms} {O U N:List Value} (h:Parts O U N):Parts (ocells (onlyM m).op) (if m.kind=2 then U else zU) (if m.kind=3 then N else zN):=by
 have z:=parts_z zeroO
 refine Parts.of (O1:=ocells zeroO) (U1:=zU) (N1:=zN) (O2:=ocells zeroO) (U2:=zU) (N2:=zN) (parts_z _) ?_ ?_
 ·split
  ·exact Parts.of z h z
  ·exact z
 ·split
  ·exact Parts.of z z h
  ·exact z
theorem only_msgs {W:World} {m:Ms} {O U N:List Value} (h:Parts O U N) (ho:m.op.ok) (hu:Upds W (.agg U.toArray) m.up) (hn:Note W (.agg N.toArray) m.no):Msgs W (onlyV m U N) (onlyM m):=by
 refine ⟨_,_,rfl,only_parts h,?_,?_,?_⟩
 ·show (if m.kind=1 then m.op else zeroO).ok
  split
  ·exact ho
  ·exact zeroO_ok
 ·show Upds W (.agg (if m.kind=2 then U else zU).toArray) (if m.kind=2 then m.up else zeroU)
  split
  ·exact hu
  ·exact upds_z W
 ·show Note W (.agg (if m.kind=3 then N else zN).toArray) (if m.kind=3 then m.no else noN)
  split
  ·exact hn
  ·exact note_z W
theorem ronly13 (m:Ms) (U N:List Value) (w:World) (hp:Parts (ocells m.op) U N):Calls Tryz.prog 13 #[.agg (mcells m.kind (ocells m.op) U N).toArray] w (Tells (onlyV m U N) w):=by
 obtain ⟨k,o,u,n⟩:=m
 dsimp only at hp ⊢
 have HS:=hid (on_start (k:=k) w hp)
 have c0:=HS.out.1.c0
 unfold z19 at HS c0
 go_enter Tryz.func13,Tryz.ntmps13
 go_upto_region 1 with fail
 generalize (w.alloc (.cells (mcells k (ocells o) U N).toArray 36)).alloc (.cells #[.int .i64 0,.int .u32 0,.int .i64 0,.int .u32 0,.bool false,.slice none 0 0,.int .i64 0,.int .i64 0,.slice none 0 0,.int .u32 0,.int .u32 0,.int .u32 0,.int .u32 0,.int .u32 0,.slice none 0 0,.slice none 0 0,.int .i64 0,.int .i64 0,.slice none 0 0] 36)=w1 at HS c0 ⊢
 have HL:=hid hp
 have HZ:=hid (BoxM.new w1 36 0 (parts_z zeroO))
 rw [← z19_is] at HZ
 unfold z19 at HZ
 have P0:=hid (parts_z zeroO)
 have hs:=HS.out.2.1.lt
 clear hp
 go_upto_region 2 with (have tok:=HZ.out;refine store_m tok P0.out _ _ rfl rfl (by rfl) (by kernel_rfl) ?_;intro w2 hb3 ht;have B3:=hid hb3;have HT:=hid ht;clear tok hb3 ht)
 have hbz:=box_msg w1 #[.int .i64 0,.int .u32 0,.int .i64 0,.int .u32 0,.bool false,.slice none 0 0,.int .i64 0,.int .i64 0,.slice none 0 0,.int .u32 0,.int .u32 0,.int .u32 0,.int .u32 0,.int .u32 0,.slice none 0 0,.slice none 0 0,.int .i64 0,.int .i64 0,.slice none 0 0]
 have ST:=hid (show OnSt w w1.heap.size k (ocells o) U N k (ocells zeroO) zU zN w2 from ⟨(HS.out.1.keep hbz).turned HT.out (by omega),(HS.out.2.1.keep hbz).turned HT.out (by omega),B3.out,HT.out.low (by omega) (HS.out.2.2.trans (hbz.mono HS.out.2.2.size)),hs⟩)
 clear hbz hs HS HZ B3 HT c0
 generalize w1.heap.size=C at ST ⊢
 have c0:=ST.out.b1.c0
 have TE:=hid True.intro
 rcases (show k=1∨k=2∨k=3∨k=4∨(k≠1∧k≠2∧k≠3∧(k<1∨1≤k∧4<k)) by omega) with rfl | rfl | rfl | rfl | ⟨h1,h2,h3,h4⟩
 focus
  have T1:=hid True.intro
  have PE:=hid (show Parts (ocells o) zU zN from parts_z o)
  have HM:=hid (show onlyV ⟨1,o,u,n⟩ U N=.agg (mcells 1 (ocells o) zU zN).toArray from rfl)
 rotate_left
 focus
  have T3:=hid True.intro
  have PE:=hid (show Parts (ocells zeroO) U zN from Parts.of P0.out HL.out P0.out)
  have HM:=hid (show onlyV ⟨2,o,u,n⟩ U N=.agg (mcells 2 (ocells zeroO) U zN).toArray from rfl)
 rotate_left
 focus
  have T5:=hid True.intro
  have PE:=hid (show Parts (ocells zeroO) zU N from Parts.of P0.out P0.out HL.out)
  have HM:=hid (show onlyV ⟨3,o,u,n⟩ U N=.agg (mcells 3 (ocells zeroO) zU N).toArray from rfl)
 rotate_left
 focus
  have PE:=hid P0.out
  have HM:=hid (show onlyV ⟨4,o,u,n⟩ U N=.agg (mcells 4 (ocells zeroO) zU zN).toArray from rfl)
 rotate_left
 focus
  have y1:(k == 1)=false:=by simp [h1]
  have y2:(k == 2)=false:=by simp [h2]
  have y3:(k == 3)=false:=by simp [h3]
  have PE:=hid P0.out
  have ek:onlyV ⟨k,o,u,n⟩ U N=.agg (mcells 0 (ocells zeroO) zU zN).toArray:=by
   show Value.agg (mcells (if 1≤k∧k≤4 then k else 0) (ocells (if k=1 then o else zeroO)) (if k=2 then U else zU) (if k=3 then N else zN)).toArray=_
   rw [if_neg h1,if_neg h2,if_neg h3,if_neg (by omega)]
  have HM:=hid (show onlyV ⟨k,o,u,n⟩ U N=.agg (mcells 0 (ocells zeroO) zU zN).toArray from ek)
  clear TE ek
  have TZ:=hid True.intro
 rotate_left
 all_goals
  clear HL
  try rcases h4 with h4 | ⟨h4,h5⟩
 all_goals
  go_wp2_with (first
   | (have tok:=T1.out;refine load_o ST.out.b1 _ rfl rfl (by kernel_rfl) ?_;have T2:=hid tok;clear T1 tok)
   | (have tok:=T2.out;refine store_o ST.out.b3 PE.out _ _ rfl rfl rfl (by kernel_rfl) ?_;intro w3 hb ht;replace ST:=hid (ST.out.turn hb ht);clear T2 tok hb ht c0;have c0:=ST.out.b1.c0)
   | (have tok:=T3.out;refine load_u ST.out.b1 _ rfl rfl (by kernel_rfl) ?_;have T4:=hid tok;clear T3 tok)
   | (have tok:=T4.out;refine store_u ST.out.b3 PE.out _ _ rfl rfl rfl (by kernel_rfl) ?_;intro w3 hb ht;replace ST:=hid (ST.out.turn hb ht);clear T4 tok hb ht c0;have c0:=ST.out.b1.c0)
   | (have tok:=T5.out;refine load_n ST.out.b1 _ rfl rfl (by kernel_rfl) ?_;have T6:=hid tok;clear T5 tok)
   | (have tok:=T6.out;refine store_n ST.out.b3 PE.out _ _ rfl rfl rfl (by kernel_rfl) ?_;intro w3 hb ht;replace ST:=hid (ST.out.turn hb ht);clear T6 tok hb ht c0;have c0:=ST.out.b1.c0)
   | (have tok:=TE.out;refine load_m ST.out.b3 _ rfl rfl (by kernel_rfl) ?_;have TF:=hid tok;clear TE tok)
   | (have tok:=TF.out;refine store_m ST.out.b2 PE.out _ _ rfl rfl rfl (by kernel_rfl) ?_;intro w9 hb ht;have BR:=hid hb;have HR:=hid (ht.low (Nat.le_succ _) ST.out.low);clear TF tok hb ht c0)
   | (have tok:=TZ.out;refine store_m ST.out.b2 (k2:=0) PE.out _ _ rfl rfl (by rfl) (by kernel_rfl) ?_;intro w9 hb ht;have BR:=hid hb;have HR:=hid (ht.low (Nat.le_succ _) ST.out.low);clear TZ tok hb ht c0))
  refine bodyPost_ret (res_msg rfl rfl BR.out) rfl ?_
  exact ⟨by rw [HM.out],HR.out⟩
end Msg
namespace Msg
open Go.RowKit Mem Oct Att PR Opn Upd Ntc Frm
open Go.Lib (hid)
theorem eql_open (W:World) (o p:Opn.Op):(binOp .eql 24 (.agg (ocells o).toArray) (.agg (ocells p).toArray)).run Tryz.prog W=.ok (.bool (decide (o=p))) W:=by
 obtain ⟨a,h,r,f⟩:=o
 obtain ⟨b,i,s,g⟩:=p
 unfold ocells
 go_simp
 by_cases h1:a=b <;> by_cases h2:h=i <;> by_cases h3:r=s <;> by_cases h4:f=g <;> simp [h1,h2,h3,h4,Int.natCast_inj]
theorem rsame13 (va vb:Value) (a b:Ms) (w:World) (ha:Msgs w va a) (hb:Msgs w vb b):Calls Tryz.prog 11 #[va,vb] w (Tells (.bool (sameM a b)) w):=by
 obtain ⟨U,N,rfl,hp,-,hu,hn⟩:=ha
 obtain ⟨U2,N2,rfl,hp2,-,hu2,hn2⟩:=hb
 obtain ⟨k,o,u,n⟩:=a
 obtain ⟨k2,o2,u2,n2⟩:=b
 dsimp only at hp hu hn hp2 hu2 hn2 ⊢
 have b1:=box_msg w (mcells k (ocells o) U N).toArray
 have b2:=box_msg (w.alloc (.cells (mcells k (ocells o) U N).toArray 36)) (mcells k2 (ocells o2) U2 N2).toArray
 have hs:(w.alloc (.cells (mcells k (ocells o) U N).toArray 36)).heap.size=w.heap.size+1:=by simp
 have hb:=b1.trans (b2.mono b1.size)
 have BX:=hid ((BoxM.new w 36 k hp).keep b2)
 have BY:=BoxM.new (w.alloc (.cells (mcells k (ocells o) U N).toArray 36)) 36 k2 hp2
 rw [hs] at BY
 have BY:=hid BY
 have HB:=hid hb
 have CU:=hid (fun v x W (h:Upds W v u) (h2:Upds W x u2)=>Upd.rsame_any v x u u2 W h h2)
 have CT:=hid (fun v x W (h:Note W v n) (h2:Note W x n2)=>told_any v x n n2 W h h2)
 have HU:=hid (And.intro (hu.keep hb) (hu2.keep hb))
 have HN:=hid (And.intro (hn.keep hb) (hn2.keep hb))
 have HG:=hid (show sameM ⟨k,o,u,n⟩ ⟨k2,o2,u2,n2⟩=(decide (k=k2) && decide (o=o2) && sameU u u2 && sameN n n2) from rfl)
 generalize sameM ⟨k,o,u,n⟩ ⟨k2,o2,u2,n2⟩=g at HG ⊢
 have eq1:=fun W=>eql_open W o o2
 clear hu hn hu2 hn2 hb b1 b2 hs hp hp2
 generalize sameU u u2=g1 at CU HG
 generalize sameN n n2=g2 at CT HG
 generalize decide (o=o2)=g3 at eq1 HG
 go_enter Tryz.func11,Tryz.ntmps11
 go_upto_region 1 with fail
 generalize (w.alloc (.cells (mcells k (ocells o) U N).toArray 36)).alloc (.cells (mcells k2 (ocells o2) U2 N2).toArray 36)=w1 at BX BY HB HU HN ⊢
 have c0:=BX.out.c0
 have d0:=BY.out.c0
 by_cases hk:k=k2
 rotate_left
 focus
  have y1:(k == k2)=false:=by simp [hk]
  obtain rfl:g=false:=by rw [HG.out];simp [hk]
 rotate_left
 focus
  subst hk
  have y1:(k == k)=true:=by simp
  have hg:=HG.out
  rw [decide_eq_true rfl] at hg
  have T1:=hid True.intro
  cases g3
  focus
   obtain rfl:g=false:=by rw [hg];simp
  rotate_left
  focus
   have T3:=hid True.intro
   cases g1
   focus
    obtain rfl:g=false:=by rw [hg];simp
   rotate_left
   focus
    obtain rfl:g=g2:=by rw [hg];simp
    have T5:=hid True.intro
   rotate_left
  all_goals clear hg
 all_goals
  clear HG
  go_wp2_with (first
   | (have tok:=T1.out;refine load_o BX.out _ rfl rfl (by kernel_rfl) ?_;have T2:=hid tok;clear T1 tok)
   | (have tok:=T2.out;refine load_o BY.out _ rfl rfl (by kernel_rfl) ?_;clear T2 tok)
   | (have tok:=T3.out;refine load_u BX.out _ rfl rfl (by kernel_rfl) ?_;have T4:=hid tok;clear T3 tok)
   | (have tok:=T4.out;refine load_u BY.out _ rfl rfl (by kernel_rfl) ?_;clear T4 tok)
   | (have tok:=T5.out;refine load_n BX.out _ rfl rfl (by kernel_rfl) ?_;have T6:=hid tok;clear T5 tok)
   | (have tok:=T6.out;refine load_n BY.out _ rfl rfl (by kernel_rfl) ?_;clear T6 tok)
   | (go_at_call 33;refine (CU.out _ _ _ HU.out.1 HU.out.2).mono ?_;rintro e x ⟨rfl,hb⟩;replace HB:=hid (HB.out.trans (hb.mono HB.out.size));replace BX:=hid (BX.out.keep hb);replace BY:=hid (BY.out.keep hb);replace HN:=hid (And.intro (HN.out.1.keep hb) (HN.out.2.keep hb));clear hb)
   | (go_at_call 22;refine (CT.out _ _ _ HN.out.1 HN.out.2).mono ?_;rintro e x ⟨rfl,hb⟩;replace HB:=hid (HB.out.trans (hb.mono HB.out.size));replace BX:=hid (BX.out.keep hb);replace BY:=hid (BY.out.keep hb);replace HN:=hid (And.intro (HN.out.1.keep hb) (HN.out.2.keep hb));clear hb))
  go_ret
  exact ⟨rfl,HB.out⟩
end Msg
namespace Msg
open Go.RowKit Mem Oct Att PR Opn Upd Ntc Frm
open Go.Lib (hid)
theorem rgood13 (v:Value) (m:Ms) (w:World) (h:Msgs w v m) (hU:∀ v W,Upds W v m.up→Calls Tryz.prog 31 #[v] W (Tells (.bool (goodU m.up)) W)):Calls Tryz.prog 10 #[v] w (Tells (.bool (goodM m)) w):=by
 obtain ⟨U,N,rfl,hp,-,hu,hn⟩:=h
 obtain ⟨k,o,u,n⟩:=m
 dsimp only at hp hu hn hU ⊢
 have CO:=hid (fun W=>show Calls Tryz.prog 30 #[.agg (ocells o).toArray] W (Tells (.bool (goodO o)) W) from Opn.rgood_any o W)
 have CU:=hid hU
 have CN:=hid (fun v W (h:Note W v n)=>Ntc.rgood_any v n W h)
 have hb:=box_msg w (mcells k (ocells o) U N).toArray
 have BX:=hid (BoxM.new w 36 k hp)
 have HB:=hid hb
 have HU:=hid (hu.keep hb)
 have HN:=hid (hn.keep hb)
 clear hu hn hU hb
 have HG:=hid (show goodM ⟨k,o,u,n⟩=((decide (k=1) && goodO o) || (decide (k=2) && goodU u) || (decide (k=3) && goodN n) || decide (k=4)) from rfl)
 generalize goodM ⟨k,o,u,n⟩=g at HG ⊢
 generalize ocells o=O at CO BX HB HU HN ⊢
 go_enter Tryz.func10,Tryz.ntmps10
 go_upto_region 1 with fail
 generalize w.alloc (.cells (mcells k O U N).toArray 36)=w1 at BX HB HU HN ⊢
 have c0:=BX.out.c0
 clear hp
 generalize goodO o=g1 at CO HG
 generalize goodU u=g2 at CU HG
 generalize goodN n=g3 at CN HG
 rcases (show k=1∨k=2∨k=3∨k=4∨(k≠1∧k≠2∧k≠3∧k≠4) by omega) with rfl | rfl | rfl | rfl | ⟨h1,h2,h3,h4⟩
 focus
  obtain rfl:g=g1:=by simpa using HG.out
  have LO:=hid True.intro
  cases g
 rotate_left 2
 focus
  obtain rfl:g=g2:=by simpa using HG.out
  have LU:=hid True.intro
  cases g
 rotate_left 2
 focus
  obtain rfl:g=g3:=by simpa using HG.out
  have LN:=hid True.intro
  cases g
 rotate_left 2
 focus
  obtain rfl:g=true:=by simpa using HG.out
 rotate_left
 focus
  obtain rfl:g=false:=by simpa [h1,h2,h3,h4] using HG.out
  have z1:(k == 1)=false:=by simp [h1]
  have z2:(k == 2)=false:=by simp [h2]
  have z3:(k == 3)=false:=by simp [h3]
  have z4:(k == 4)=false:=by simp [h4]
 rotate_left
 all_goals
  clear HG
  go_wp2_with (first
   | (have tok:=LO.out;refine load_o BX.out _ rfl rfl (by kernel_rfl) ?_;clear LO tok)
   | (have tok:=LU.out;refine load_u BX.out _ rfl rfl (by kernel_rfl) ?_;clear LU tok)
   | (have tok:=LN.out;refine load_n BX.out _ rfl rfl (by kernel_rfl) ?_;clear LN tok)
   | (go_at_call 30;refine (CO.out _).mono ?_;rintro e x ⟨rfl,hb⟩;replace HB:=hid (HB.out.trans (hb.mono HB.out.size));replace BX:=hid (BX.out.keep hb);clear c0;have c0:=BX.out.c0;clear hb)
   | (go_at_call 31;refine (CU.out _ _ HU.out).mono ?_;rintro e x ⟨rfl,hb⟩;replace HB:=hid (HB.out.trans (hb.mono HB.out.size));replace BX:=hid (BX.out.keep hb);clear c0;have c0:=BX.out.c0;clear hb)
   | (go_at_call 32;refine (CN.out _ _ HN.out).mono ?_;rintro e x ⟨rfl,hb⟩;replace HB:=hid (HB.out.trans (hb.mono HB.out.size));replace BX:=hid (BX.out.keep hb);clear c0;have c0:=BX.out.c0;clear hb))
  go_ret
  exact ⟨rfl,HB.out⟩
end Msg
namespace Msg
open Go.RowKit Mem Oct Att PR Opn Upd Ntc Frm
open Go.Lib (hid)
theorem own_lit8 (w:World) (l:List Nat) (C:Array Value) (n:Nat) (hC:C.toList=cells8 l) (hn:n=l.length) (hm:n≤1000000):(w.alloc (.cells C 5)).ownsRow w.heap.size 5 1 (.slice (some ⟨w.heap.size,0,none⟩) n n) n (cells8 l):=by
 subst hn
 have hs:C.size=l.length:=by rw [← Array.length_toList,hC,cells8_len]
 exact ⟨by rw [cells8_len,Nat.mul_one],.inr ⟨w.heap.size,l.length,C,rfl,Nat.le_refl _,heap_alloc_new _ _,Nat.le_refl _,by unfold maxLen;omega,by rw [hs,Nat.mul_one],by rw [hC,Nat.mul_one,List.take_of_length_le (by rw [cells8_len];exact Nat.le_refl _)]⟩⟩
theorem rbody13 (v:Value) (m:Ms) (w:World) (h:Msgs w v m) (hg:goodM m=true) (hU:m.kind=2→∀ v W,Upds W v m.up→Calls Tryz.prog 44 #[v] W (Gives8 (encU m.up) W)):Calls Tryz.prog 17 #[v] w (Gives8 (bodyM m) w):=by
 obtain ⟨U,N,rfl,hp,ho,hu,hn⟩:=h
 obtain ⟨k,o,u,n⟩:=m
 dsimp only at hp ho hu hn hU ⊢
 have hb:=box_msg w (mcells k (ocells o) U N).toArray
 have BX:=hid (BoxM.new w 36 k hp)
 have HB:=hid hb
 have HU:=hid (hu.keep hb)
 have HN:=hid (hn.keep hb)
 have c0:=BX.out.c0
 clear hu hn hb hp
 obtain ⟨w1,hw1⟩:∃ w1,w.alloc (.cells (mcells k (ocells o) U N).toArray 36)=w1:=⟨_,rfl⟩
 rw [hw1] at BX HB HU HN c0
 obtain ⟨i0,E0⟩:=elem8
 rcases good_kind hg with ⟨rfl,h1⟩ | ⟨rfl,h1⟩ | ⟨rfl,h1⟩ | rfl
 focus
  have CO:=hid (fun W=>show Calls Tryz.prog 43 #[.agg (ocells o).toArray] W (Gives8 (bodyM ⟨1,o,u,n⟩) W) from Opn.rencode_any o W ho h1)
  have T1:=hid True.intro
 rotate_left
 focus
  have CU:=hid (fun v W (h:Upds W v u)=>show Calls Tryz.prog 44 #[v] W (Gives8 (bodyM ⟨2,o,u,n⟩) W) from hU rfl v W h)
  have T2:=hid True.intro
 rotate_left
 focus
  obtain ⟨-,-,vd,e,hd⟩:=HN.out
  obtain rfl:N=[.int .i64 n.code,.int .i64 n.sub,vd]:=agg_inj e
  obtain ⟨Ad,cd,rfl,hc1,hc2⟩:=hd.form
  have q0:w1.cell? ⟨w.heap.size,16,none⟩=some _:=BX.out.rN 0 _ rfl
  have q1:w1.cell? ⟨w.heap.size,17,none⟩=some _:=BX.out.rN 1 _ rfl
  have q2:w1.cell? ⟨w.heap.size,18,none⟩=some _:=BX.out.rN 2 _ rfl
  have HD:=hid hd
  have hlt:=BX.out.lt
  have q2k:=keepsT ((Below.refl _ _).alloc (Nat.le_refl _) (.cells #[.int .u8 (lo8 n.code:Nat),.int .u8 (lo8 n.sub:Nat)] 5)) q2
  have T4:=hid True.intro
  have v1:=wrap_lo8 n.code
  have v2:=wrap_lo8 n.sub
  have hl:n.data.length≤4075:=(goodN_of h1).2.2.2.2
  have HE:=hid (show bodyM ⟨3,o,u,n⟩=[lo8 n.code,lo8 n.sub] ++ n.data from rfl)
  clear hd
 rotate_left
 focus
  have HE:=hid (show bodyM ⟨4,o,u,n⟩=[] from rfl)
 rotate_left
 all_goals
  clear hU hg ho
  go_enter Tryz.func17,Tryz.ntmps17
  go_wp2_with (first
   | (have tok:=T1.out;refine load_o BX.out _ rfl rfl (by kernel_rfl) ?_;clear T1 tok)
   | (have tok:=T2.out;refine load_u BX.out _ rfl rfl (by kernel_rfl) ?_;clear T2 tok)
   | (go_at_call 43;refine (CO.out _).mono ?_;rintro e x ⟨A1,c1,rfl,ho,hb⟩;have HX:=hid ho;have HBX:=hid (HB.out.trans (hb.mono HB.out.size));clear ho hb)
   | (go_at_call 44;refine (CU.out _ _ HU.out).mono ?_;rintro e x ⟨A1,c1,rfl,ho,hb⟩;have HX:=hid ho;have HBX:=hid (HB.out.trans (hb.mono HB.out.size));clear ho hb)
   | (have tok:=T4.out;at_builtin;refine wpList_append_row rfl (.tmp 26) (.tmp 29) rfl E0 w1.heap.size _ 2 (cells8 [lo8 n.code,lo8 n.sub]) rfl (own_lit8 _ [lo8 n.code,lo8 n.sub] _ 2 rfl rfl (by decide)) _ n.data.length (cells8 n.data) rfl (HD.out.keep ((Below.refl _ _).alloc (Nat.le_refl _) _)).1 (ones8 _) (by unfold maxLen;omega) (by omega) (by simp) (2+n.data.length) rfl ?_;intro A1 c1 x hown hg hat hb2;have HX:=hid hown;have HBX:=hid ((HB.out.alloc HB.out.size _).trans (hb2.mono HB.out.size));clear T4 tok hown hg hat hb2))
  go_ret
  first
   | exact ⟨A1,c1,rfl,own_base HX.out HB.out.size,HBX.out⟩
   | (rw [HE.out];have e:([lo8 n.code,lo8 n.sub] ++ n.data).length=2+n.data.length:=List.length_append;refine ⟨A1,c1,by rw [e];rfl,?_,HBX.out⟩;rw [e,cells8_append];exact own_base HX.out HB.out.size)
   | (rw [HE.out];exact ⟨some ⟨w1.heap.size,0,none⟩,0,rfl,own_blk HB.out.size (heap_alloc_new _ _),HB.out.alloc HB.out.size _⟩)
end Msg
namespace Upd
open Oct Att PR
theorem rest_len (l:List Nat) (b:Bool) (k:Int):(rest l b k).length≤l.length:=by
 unfold rest
 split
 ·simp
 ·rw [List.length_drop];omega
theorem got_len2 (l:List Nat) (b:Bool) (k:Int):(got l b k).length≤l.length:=by
 unfold got
 split
 ·simp
 ·rw [List.length_take];omega
theorem fit_num {l:List Nat} {n:Nat} (h:n≤l.length):(Rd.mk l false).num (n:Nat)=val (l.take n):=by
 unfold Rd.num
 rw [(fit_go h).2]
theorem rd_upd (b:List Nat) (x1 x2 x3 x4:Rd) (n1 n2:Nat) (G Q:List Nat) (e1:x1=(Rd.mk b false).go 2) (en1:n1=(Rd.mk b false).num 2) (e2:x2=x1.go n1) (eG:G=got x1.l x1.b n1) (e3:x3=x2.go 2) (en2:n2=x2.num 2) (e4:x4=x3.go n2) (eQ:Q=got x3.l x3.b n2) :
  (x4.b=true→decU b=.inl form1)∧(x4.b=false→(dec val G=none→decU b=.inl form1)∧∀ g,dec val G=some g→decU b=decU2 g (decodeA Q) x4.l):=by
 by_cases h1:b.length<2
 ·have hx1:x1.b=true:=by rw [e1];exact (go_short (by omega)).1
  have hx4:x4.b=true:=by rw [e4];exact go_bad (by rw [e3];exact go_bad (by rw [e2];exact go_bad hx1 _) _) _
  exact ⟨fun _=>if_pos h1,fun h=>by rw [hx4] at h;cases h⟩
 have f1:=fit_go (l:=b) (n:=2) (by omega)
 have g1:=fit_num (l:=b) (n:=2) (by omega)
 replace e1:x1=⟨b.drop 2,false⟩:=e1.trans f1.1
 replace en1:n1=val (b.take 2):=en1.trans g1
 subst e1
 have hD:decU b=if b.length<2+n1 then .inl form1 else decU1 (dec val ((b.drop 2).take n1)) (b.drop (2+n1)):=by rw [en1];exact if_neg h1
 clear en1 f1 g1
 by_cases h2:b.length<2+n1
 ·have hx2:x2.b=true:=by rw [e2];exact (go_short (by rw [List.length_drop];omega)).1
  have hx4:x4.b=true:=by rw [e4];exact go_bad (by rw [e3];exact go_bad hx2 _) _
  exact ⟨fun _=>by rw [hD,if_pos h2],fun h=>by rw [hx4] at h;cases h⟩
 rw [if_neg h2] at hD
 have f2:=fit_go (l:=b.drop 2) (n:=n1) (by rw [List.length_drop];omega)
 replace e2:x2=⟨b.drop (2+n1),false⟩:=e2.trans (f2.1.trans (by rw [List.drop_drop]))
 replace eG:G=(b.drop 2).take n1:=eG.trans f2.2
 subst e2
 rw [← eG] at hD
 clear f2 eG
 obtain ⟨C,hC⟩:∃ C,C=b.drop (2+n1):=⟨_,rfl⟩
 rw [← hC] at e3 en2 hD
 cases hg:dec val G with
 | none =>
  have hd:decU b=.inl form1:=by rw [hD,hg];rfl
  exact ⟨fun _=>hd,fun _=>⟨fun _=>hd,fun g h=>by cases h⟩⟩
 | some g =>
 rw [hg] at hD
 by_cases h3:C.length<2
 ·have hx3:x3.b=true:=by rw [e3];exact (go_short (by omega)).1
  have hx4:x4.b=true:=by rw [e4];exact go_bad hx3 _
  exact ⟨fun _=>by rw [hD];exact if_pos h3,fun h=>by rw [hx4] at h;cases h⟩
 have f3:=fit_go (l:=C) (n:=2) (by omega)
 have g3:=fit_num (l:=C) (n:=2) (by omega)
 replace e3:x3=⟨C.drop 2,false⟩:=e3.trans f3.1
 replace en2:n2=val (C.take 2):=en2.trans g3
 subst e3
 have hD2:decU b=if C.length<2+n2 then .inl form1 else decU2 g (decodeA ((C.drop 2).take n2)) (C.drop (2+n2)):=by rw [hD,en2];exact if_neg h3
 clear f3 g3 en2 hD
 by_cases h4:C.length<2+n2
 ·have hx4:x4.b=true:=by rw [e4];exact (go_short (by rw [List.length_drop];omega)).1
  exact ⟨fun _=>by rw [hD2,if_pos h4],fun h=>by rw [hx4] at h;cases h⟩
 rw [if_neg h4] at hD2
 have f4:=fit_go (l:=C.drop 2) (n:=n2) (by rw [List.length_drop];omega)
 replace e4:x4=⟨C.drop (2+n2),false⟩:=e4.trans (f4.1.trans (by rw [List.drop_drop]))
 replace eQ:Q=(C.drop 2).take n2:=eQ.trans f4.2
 subst e4
 rw [← eQ] at hD2
 refine ⟨fun h=>(by cases h),fun _=>⟨fun h=>(by cases h),fun g' h=>?_⟩⟩
 injection h with h
 rw [← h]
 exact hD2
end Upd
namespace Upd
open Go.RowKit Mem Segm Oct Att Seg PR
theorem field0 (k s:Int) (A:Option Addr) (n c:Nat) (x:World):(Instr.field 34 (.agg #[.int .i64 k,.int .i64 s,.slice A n c]) 0).run Tryz.prog x=.ok (.int .i64 k) x:=by kernel_rfl
theorem code_well (h:Int):(wellN h).code=cond (wellB h) 0 3:=by
 cases hw:wellB h with
 | true=>rw [wellN_yes hw];rfl
 | false=>obtain ⟨k,-,-,e⟩:=wellN_no hw;rw [e];rfl
theorem ugood_any (va:Value) (a:Up) (w:World) (ha:Upds w va a) (hln:lens a.at_.path≤100000):Calls Tryz.prog 28 #[va] w (Tells (.bool (goodU a)) w):=by
 obtain ⟨vg,vp,vc,vh,rfl,hg,ht,hh⟩:=ha
 obtain ⟨ag,a,ah⟩:=a
 dsimp only at *
 have C1:=hid (fun W (h:Below w.heap.size w W)=>goods_any vg _ W (hg.keep h))
 have C2:=hid (fun W (h:Below w.heap.size w W)=>goods_any vh _ W (hh.keep h))
 have C3:=hid (fun W (h:Below w.heap.size w W)=>sameA_any _ _ _ _ W (ht.keep h) (attrs_zero W))
 have C4:=hid (fun W (h:Below w.heap.size w W)=>good_any _ _ W (ht.keep h) hln)
 have C5:=hid (fun W (h:Below w.heap.size w W)=>(show Calls Tryz.prog 68 #[aV a vp vc] W (fun e w'=>∃ A n c,e=.returned (.agg #[.int .i64 (cond (wellB a.has) 0 3),.int .i64 (wellN a.has).sub,.slice A n c])∧Below W.heap.size W w') from (well_any _ _ W (ht.keep h)).mono fun e w' ⟨v',h1,h2,h3⟩=>by
  obtain ⟨-,-,vd,h4,h5⟩:=h2
  obtain ⟨A,c,rfl,-,-⟩:=h5.form
  refine ⟨A,(wellN a.has).data.length,c,?_,h3⟩
  rw [h1,h4,code_well]))
 unfold aV at C5
 obtain ⟨A,c,rfl,hlc,hc⟩:=hh.form
 unfold goodU
 dsimp only
 unfold aV at C3 C4
 generalize (wellN a.has).sub=ns at C5
 generalize ag.all good=b1 at C1 ⊢
 generalize ah.all good=b2 at C2 ⊢
 generalize sameA a zeroA=b3 at C3 ⊢
 generalize goodA a=b4 at C4 ⊢
 generalize wellB a.has=b5 at C5 ⊢
 have K:=hid (And.intro (BoxU.new w 31 a vg vp vc (.slice A ah.length c)) ((Below.refl w.heap.size w).alloc (Nat.le_refl _) (.cells #[vg,.int .i64 a.has,.int .i64 a.origin,vp,.int .u32 a.hop,.int .u32 a.med,.int .u32 a.pref,.int .u32 a.aas,.int .u32 a.aid,vc,(.slice A ah.length c)] 31)))
 obtain ⟨p0,p1,p2,p3,p4,p5,p6,p7,p8,p9,p10⟩:=K.out.1.cells
 have T0:=hid True.intro
 unfold uV
 rcases b1 with _ | _
 rotate_left
 rcases b2 with _ | _
 rotate_left
 rcases Decidable.em (ah=[]) with hz | hz
 have y1:((ah.length:Int) == 0)=true:=by simp [hz]
 rw [if_pos hz]
 clear hz
 rotate_left
 have y1:((ah.length:Int) == 0)=false:=by simpa using hz
 rw [if_neg hz]
 clear hz
 rcases b4 with _ | _
 rotate_left
 rcases b5 with _ | _
 rotate_left
 all_goals
  clear hg ht hh
  (try dsimp only [cond] at C5)
  try simp only [Bool.true_and,Bool.false_and,Bool.and_false,Bool.and_true]
  go_enter Tryz.func28,Tryz.ntmps28
  go_wp2_with (first
   | (have tok:=T0.out;go_at_call 65;(refine (C1.out _ K.out.2).mono ?_;rintro e x ⟨rfl,hb⟩;replace K:=hid (And.intro (K.out.1.keep hb) (K.out.2.trans (hb.mono K.out.2.size)));clear hb tok T0 p0 p1 p2 p3 p4 p5 p6 p7 p8 p9 p10;obtain ⟨p0,p1,p2,p3,p4,p5,p6,p7,p8,p9,p10⟩:=K.out.1.cells;have T1:=hid True.intro))
   | (have tok:=T1.out;go_at_call 65;(refine (C2.out _ K.out.2).mono ?_;rintro e x ⟨rfl,hb⟩;replace K:=hid (And.intro (K.out.1.keep hb) (K.out.2.trans (hb.mono K.out.2.size)));clear hb tok T1 p0 p1 p2 p3 p4 p5 p6 p7 p8 p9 p10;obtain ⟨p0,p1,p2,p3,p4,p5,p6,p7,p8,p9,p10⟩:=K.out.1.cells;have T2:=hid True.intro))
   | (have tok:=T2.out;go_at_call 66;(refine (C3.out _ K.out.2).mono ?_;rintro e x ⟨rfl,hb⟩;replace K:=hid (And.intro (K.out.1.keep hb) (K.out.2.trans (hb.mono K.out.2.size)));clear hb tok T2 p0 p1 p2 p3 p4 p5 p6 p7 p8 p9 p10;obtain ⟨p0,p1,p2,p3,p4,p5,p6,p7,p8,p9,p10⟩:=K.out.1.cells;have T3:=hid True.intro))
   | (have tok:=T2.out;go_at_call 67;(refine (C4.out _ K.out.2).mono ?_;rintro e x ⟨rfl,hb⟩;replace K:=hid (And.intro (K.out.1.keep hb) (K.out.2.trans (hb.mono K.out.2.size)));clear hb tok T2 p0 p1 p2 p3 p4 p5 p6 p7 p8 p9 p10;obtain ⟨p0,p1,p2,p3,p4,p5,p6,p7,p8,p9,p10⟩:=K.out.1.cells;have T3:=hid True.intro))
   | (have tok:=T3.out;go_at_call 68;(refine (C5.out _ K.out.2).mono ?_;rintro e x ⟨Aw,nw,cw,rfl,hb⟩;have ff:=field0 3 ns Aw nw cw x;have fg:=field0 0 ns Aw nw cw x;replace K:=hid (And.intro (K.out.1.keep hb) (K.out.2.trans (hb.mono K.out.2.size)));clear hb tok T3 p0 p1 p2 p3 p4 p5 p6 p7 p8 p9 p10;obtain ⟨p0,p1,p2,p3,p4,p5,p6,p7,p8,p9,p10⟩:=K.out.1.cells;have T4:=hid True.intro)))
  go_ret
  exact ⟨rfl,K.out.2⟩
end Upd
namespace Upd
open Oct Att PR
theorem good_zeroA:goodA zeroA=true:=by decide +kernel
theorem goodU_at {u:Up} (h:goodU u=true):u.gone.all good=true∧u.here.all good=true∧goodA u.at_=true:=by
 unfold goodU at h
 simp only [Bool.and_eq_true] at h
 obtain ⟨⟨h1,h2⟩,h3⟩:=h
 refine ⟨h1,h2,?_⟩
 split at h3
 ·rw [sameA_iff.1 h3];exact good_zeroA
 ·exact (Bool.and_eq_true _ _ ▸ h3).1
end Upd
namespace Upd
open Go.RowKit Mem Segm Oct Att Seg PR
theorem encU_len (u:Up):(encU u).length=4+(encs u.gone).length+(encA u.at_).length+(encs u.here).length:=by
 unfold encU
 simp only [List.length_append,big_len]
 omega
end Upd
namespace Upd
open Go.RowKit Mem Segm Oct Att Seg PR
theorem big_two (n:Nat):[lo8 ((n:Int) / 256),lo8 (n:Int)]=big n 2:=by
 rw [big2,show lo8 ((n:Int) / 256)=n / 256 % 256 from by unfold lo8;omega,lo8_nat]
theorem longS_is {m:List Nat} (h:m.length≤65535):longS m=big m.length 2 ++ m:=by
 unfold longS
 rw [if_pos h,big_two]
def EncOk (E:List Nat) (w:World) (e:Ending) (w':World):Prop:=∃ A c,e=.returned (.tuple #[.slice A E.length c,.int .i64 0])∧w'.ownsRow w.heap.size 5 1 (.slice A E.length c) E.length (cells8 E)∧Below w.heap.size w w'
structure UeSt (w3:World) (l:List Nat) (F:Nat→Prop) (W:World):Prop where
 wr:Wr W w3.heap.size (.pointer (some ⟨w3.heap.size,0,none⟩)) l F
 low:Below w3.heap.size w3 W
theorem UeSt.add {w3 W W2:World} {l l2:List Nat} {F:Nat→Prop} {x:Value} {e:Ending} (h:UeSt w3 l F W) (k:AddF w3.heap.size (.pointer (some ⟨w3.heap.size,0,none⟩)) x l2 F W e W2):∃ F2,e=.returned x∧UeSt w3 l2 F2 W2:=by
 obtain ⟨F2,h1,h2,h3,-⟩:=k
 exact ⟨F2,h1,h2,h.low.trans (h3.below (fun k hk=>(h.wr.lt k hk).1) h.low.size)⟩
theorem ue_start (w3:World):UeSt w3 [] (fun k=>k=w3.heap.size) (w3.alloc (.cells #[.slice none 0 0] 97)):=⟨wr_zero w3 (Nat.le_refl _),(Below.refl _ w3).alloc (Nat.le_refl _) _⟩
theorem UeSt.is {w3 W:World} {l m:List Nat} {F:Nat→Prop} (h:UeSt w3 l F W) (e:l=m):UeSt w3 m F W:=e ▸ h
theorem uenc_bad (va:Value) (a:Up) (w:World) (ha:Upds w va a) (hln:lens a.at_.path≤100000) (hgu:goodU a=false):Calls Tryz.prog 56 #[va] w (Tells (.tuple #[.slice none 0 0,.int .i64 1]) w):=by
 have CGd:=hid (fun W (h:Below w.heap.size w W)=>ugood_any va a W (ha.keep h) hln)
 obtain ⟨vg,vp,vc,vh,rfl,hg,ht,hh⟩:=ha
 have S0:=hid (And.intro (BoxU.new w 31 a.at_ vg vp vc vh) ((Below.refl w.heap.size w).alloc (Nat.le_refl _) (.cells #[vg,.int .i64 a.at_.has,.int .i64 a.at_.origin,vp,.int .u32 a.at_.hop,.int .u32 a.at_.med,.int .u32 a.at_.pref,.int .u32 a.at_.aas,.int .u32 a.at_.aid,vc,vh] 31)))
 unfold uV at CGd ⊢
 rw [hgu] at CGd
 obtain ⟨p0,p1,p2,p3,p4,p5,p6,p7,p8,p9,p10⟩:=S0.out.1.cells
 clear hg ht hh hln hgu
 go_enter Tryz.func56,Tryz.ntmps56
 go_wp2_with (first
  | (have tok:=S0.out;go_at_call 28;(refine (CGd.out _ S0.out.2).mono ?_;rintro e x1 ⟨rfl,hb⟩;have S1:=hid (And.intro (S0.out.1.keep hb) (S0.out.2.trans (hb.mono S0.out.2.size)));clear hb tok S0;clear p0 p1 p2 p3 p4 p5 p6 p7 p8 p9 p10;obtain ⟨p0,p1,p2,p3,p4,p5,p6,p7,p8,p9,p10⟩:=S1.out.1.cells)))
 go_ret2
 exact ⟨rfl,S1.out.2⟩
theorem uenc_long (va:Value) (a:Up) (w:World) (ha:Upds w va a) (hS:Shp w) (hln:lens a.at_.path≤100000) (hl1:a.gone.length≤1000) (hl2:a.here.length≤1000) (hsm:Small (encA a.at_)) (hgu:goodU a=true) (hE:4077<(encU a).length):Calls Tryz.prog 56 #[va] w (Tells (.tuple #[.slice none 0 0,.int .i64 6]) w):=by
 have CGd:=hid (fun W (h:Below w.heap.size w W)=>ugood_any va a W (ha.keep h) hln)
 obtain ⟨vg,vp,vc,vh,rfl,hg,ht,hh⟩:=ha
 have S0:=hid (And.intro (BoxU.new w 31 a.at_ vg vp vc vh) ((Below.refl w.heap.size w).alloc (Nat.le_refl _) (.cells #[vg,.int .i64 a.at_.has,.int .i64 a.at_.origin,vp,.int .u32 a.at_.hop,.int .u32 a.at_.med,.int .u32 a.at_.pref,.int .u32 a.at_.aas,.int .u32 a.at_.aid,vc,vh] 31)))
 unfold uV at CGd ⊢
 rw [hgu] at CGd
 obtain ⟨p0,p1,p2,p3,p4,p5,p6,p7,p8,p9,p10⟩:=S0.out.1.cells
 obtain ⟨g1,g2,g3⟩:=goodU_at hgu
 have C1:=hid (fun W (h:Below w.heap.size w W)=>show Calls Tryz.prog 105 #[vg] W (EncOk (encs a.gone) W) from (encode_any vg _ W (hg.keep h) hl1).mono fun e w' h2=>by
  rcases h2 with ⟨h3,-⟩ | ⟨-,h3⟩
  ·rw [g1] at h3;cases h3
  ·exact h3)
 have C3:=hid (fun W (h:Below w.heap.size w W)=>show Calls Tryz.prog 105 #[vh] W (EncOk (encs a.here) W) from (encode_any vh _ W (hh.keep h) hl2).mono fun e w' h2=>by
  rcases h2 with ⟨h3,-⟩ | ⟨-,h3⟩
  ·rw [g2] at h3;cases h3
  ·exact h3)
 have C2:=hid (fun W (h:Below w.heap.size w W)=>show Calls Tryz.prog 106 #[aV a.at_ vp vc] W (EncOk (encA a.at_) W) from enc_good (ht.keep h) (hS.keep h) hln g3)
 unfold EncOk at C1 C2 C3
 unfold aV at C2
 have n1:=encs_len g1
 have n2:(encA a.at_).length≤100000:=by have h1:=encTo_len g3 8;show (encTo a.at_ 8).length≤_;omega
 have n3:=encs_len g2
 have HS:=hid (show Small (encs a.gone)∧Small (encA a.at_)∧Small (encs a.here) from ⟨encs_small g1,hsm,encs_small g2⟩)
 have hlen:=encU_len a
 have EU:=hid (show encU a=big (encs a.gone).length 2 ++ encs a.gone ++ big (encA a.at_).length 2 ++ encA a.at_ ++ encs a.here from rfl)
 generalize encU a=E at EU hlen hE ⊢
 generalize encs a.gone=X at C1 n1 HS EU hlen
 generalize encA a.at_=Y at C2 n2 HS EU hlen
 generalize encs a.here=Z at C3 n3 HS EU hlen
 obtain ⟨t1,ht1⟩:∃ t,t=4+X.length:=⟨_,rfl⟩
 obtain ⟨t2,ht2⟩:∃ t,t=t1+Y.length:=⟨_,rfl⟩
 obtain ⟨t3,ht3⟩:∃ t,t=t2+Z.length:=⟨_,rfl⟩
 have q1:IntKind.i64.wrap (4+(X.length:Int))=(t1:Int):=by rw [IntWalk.i64_in _ (by omega)];omega
 have q2:IntKind.i64.wrap ((t1:Int)+(Y.length:Int))=(t2:Int):=by rw [IntWalk.i64_in _ (by omega)];omega
 have q3:IntKind.i64.wrap ((t2:Int)+(Z.length:Int))=(t3:Int):=by rw [IntWalk.i64_in _ (by omega)];omega
 have hE3:E.length=t3:=by omega
 have y1:(t3:Int) > 4077:=by omega
 clear hg ht hh hln hgu g1 g2 g3 n1 n2 n3 hlen hE hE3 ht1 ht2 ht3 hl1 hl2 hsm EU hS
 go_enter Tryz.func56,Tryz.ntmps56
 go_wp2_with (first
  | (have tok:=S0.out;go_at_call 28;(refine (CGd.out _ S0.out.2).mono ?_;rintro e x1 ⟨rfl,hb⟩;have S1:=hid (And.intro (S0.out.1.keep hb) (S0.out.2.trans (hb.mono S0.out.2.size)));clear hb tok S0;clear p0 p1 p2 p3 p4 p5 p6 p7 p8 p9 p10;obtain ⟨p0,p1,p2,p3,p4,p5,p6,p7,p8,p9,p10⟩:=S1.out.1.cells))
  | (have tok:=S1.out;go_at_call 105;(refine (C1.out _ S1.out.2).mono ?_;rintro e x2 ⟨A1,c1,rfl,ho,hb⟩;have S2:=hid (And.intro (S1.out.1.keep hb) (S1.out.2.trans (hb.mono S1.out.2.size)));have U1:=hid (U8s.of_own ho HS.out.1);clear ho;clear hb tok S1;clear p0 p1 p2 p3 p4 p5 p6 p7 p8 p9 p10;obtain ⟨p0,p1,p2,p3,p4,p5,p6,p7,p8,p9,p10⟩:=S2.out.1.cells))
  | (have tok:=S2.out;go_at_call 106;(refine (C2.out _ S2.out.2).mono ?_;rintro e x3 ⟨A2,c2,rfl,ho,hb⟩;have S3:=hid (And.intro (S2.out.1.keep hb) (S2.out.2.trans (hb.mono S2.out.2.size)));have U2:=hid (U8s.of_own ho HS.out.2.1);clear ho;replace U1:=hid (U1.out.keep hb);clear hb tok S2;clear p0 p1 p2 p3 p4 p5 p6 p7 p8 p9 p10;obtain ⟨p0,p1,p2,p3,p4,p5,p6,p7,p8,p9,p10⟩:=S3.out.1.cells))
  | (have tok:=S3.out;go_at_call 105;(refine (C3.out _ S3.out.2).mono ?_;rintro e x4 ⟨A3,c3,rfl,ho,hb⟩;have S4:=hid (And.intro (S3.out.1.keep hb) (S3.out.2.trans (hb.mono S3.out.2.size)));have U3:=hid (U8s.of_own ho HS.out.2.2);clear ho;replace U1:=hid (U1.out.keep hb);replace U2:=hid (U2.out.keep hb);clear hb tok S3;clear p0 p1 p2 p3 p4 p5 p6 p7 p8 p9 p10;obtain ⟨p0,p1,p2,p3,p4,p5,p6,p7,p8,p9,p10⟩:=S4.out.1.cells)))
 go_ret2
 exact ⟨rfl,S4.out.2⟩
theorem uenc_ok (va:Value) (a:Up) (w:World) (ha:Upds w va a) (hS:Shp w) (hln:lens a.at_.path≤100000) (hl1:a.gone.length≤1000) (hl2:a.here.length≤1000) (hsm:Small (encA a.at_)) (hgu:goodU a=true) (hE:(encU a).length≤4077):Calls Tryz.prog 56 #[va] w (EncOk (encU a) w):=by
 have CGd:=hid (fun W (h:Below w.heap.size w W)=>ugood_any va a W (ha.keep h) hln)
 obtain ⟨vg,vp,vc,vh,rfl,hg,ht,hh⟩:=ha
 have S0:=hid (And.intro (BoxU.new w 31 a.at_ vg vp vc vh) ((Below.refl w.heap.size w).alloc (Nat.le_refl _) (.cells #[vg,.int .i64 a.at_.has,.int .i64 a.at_.origin,vp,.int .u32 a.at_.hop,.int .u32 a.at_.med,.int .u32 a.at_.pref,.int .u32 a.at_.aas,.int .u32 a.at_.aid,vc,vh] 31)))
 unfold uV at CGd ⊢
 rw [hgu] at CGd
 obtain ⟨p0,p1,p2,p3,p4,p5,p6,p7,p8,p9,p10⟩:=S0.out.1.cells
 obtain ⟨g1,g2,g3⟩:=goodU_at hgu
 have C1:=hid (fun W (h:Below w.heap.size w W)=>show Calls Tryz.prog 105 #[vg] W (EncOk (encs a.gone) W) from (encode_any vg _ W (hg.keep h) hl1).mono fun e w' h2=>by
  rcases h2 with ⟨h3,-⟩ | ⟨-,h3⟩
  ·rw [g1] at h3;cases h3
  ·exact h3)
 have C3:=hid (fun W (h:Below w.heap.size w W)=>show Calls Tryz.prog 105 #[vh] W (EncOk (encs a.here) W) from (encode_any vh _ W (hh.keep h) hl2).mono fun e w' h2=>by
  rcases h2 with ⟨h3,-⟩ | ⟨-,h3⟩
  ·rw [g2] at h3;cases h3
  ·exact h3)
 have C2:=hid (fun W (h:Below w.heap.size w W)=>show Calls Tryz.prog 106 #[aV a.at_ vp vc] W (EncOk (encA a.at_) W) from enc_good (ht.keep h) (hS.keep h) hln g3)
 unfold EncOk at C1 C2 C3
 unfold aV at C2
 have n1:=encs_len g1
 have n2:(encA a.at_).length≤100000:=by have h1:=encTo_len g3 8;show (encTo a.at_ 8).length≤_;omega
 have n3:=encs_len g2
 have HS:=hid (show Small (encs a.gone)∧Small (encA a.at_)∧Small (encs a.here) from ⟨encs_small g1,hsm,encs_small g2⟩)
 have hlen:=encU_len a
 have EU:=hid (show encU a=big (encs a.gone).length 2 ++ encs a.gone ++ big (encA a.at_).length 2 ++ encA a.at_ ++ encs a.here from rfl)
 generalize encU a=E at EU hlen hE ⊢
 generalize encs a.gone=X at C1 n1 HS EU hlen
 generalize encA a.at_=Y at C2 n2 HS EU hlen
 generalize encs a.here=Z at C3 n3 HS EU hlen
 obtain ⟨t1,ht1⟩:∃ t,t=4+X.length:=⟨_,rfl⟩
 obtain ⟨t2,ht2⟩:∃ t,t=t1+Y.length:=⟨_,rfl⟩
 obtain ⟨t3,ht3⟩:∃ t,t=t2+Z.length:=⟨_,rfl⟩
 have q1:IntKind.i64.wrap (4+(X.length:Int))=(t1:Int):=by rw [IntWalk.i64_in _ (by omega)];omega
 have q2:IntKind.i64.wrap ((t1:Int)+(Y.length:Int))=(t2:Int):=by rw [IntWalk.i64_in _ (by omega)];omega
 have q3:IntKind.i64.wrap ((t2:Int)+(Z.length:Int))=(t3:Int):=by rw [IntWalk.i64_in _ (by omega)];omega
 have hE3:E.length=t3:=by omega
 have y1:decide ((t3:Int) > 4077)=false:=decide_eq_false (by omega)
 have EL:=hid (show X.length≤4077∧Y.length≤4077∧Z.length≤4077∧E.length≤4077 from by omega)
 have E1:=hid (show [] ++ longS X=big X.length 2 ++ X from by rw [longS_is (by omega)];rfl)
 have E2:=hid (show big X.length 2 ++ X ++ longS Y=big X.length 2 ++ X ++ big Y.length 2 ++ Y from by rw [longS_is (by omega),List.append_assoc (big X.length 2 ++ X)])
 have L1:=hid (show (big X.length 2 ++ X).length+Y.length≤800000 from by simp [big_len];omega)
 have L2:=hid (show (big X.length 2 ++ X ++ big Y.length 2 ++ Y).length+Z.length≤1000000 from by simp [big_len];omega)
 obtain ⟨K1,hK1⟩:∃ K,K=big X.length 2 ++ X:=⟨_,rfl⟩
 obtain ⟨K2,hK2⟩:∃ K,K=K1 ++ big Y.length 2 ++ Y:=⟨_,rfl⟩
 rw [← hK1] at E1 E2 L1 L2 EU
 rw [← hK2] at E2 L2 EU
 clear hg ht hh hln hgu g1 g2 g3 n1 n2 n3 hlen hE hE3 ht1 ht2 ht3 hl1 hl2 hsm hS hK1 hK2
 unfold EncOk
 go_enter Tryz.func56,Tryz.ntmps56
 go_wp2_with (first
  | (have tok:=S0.out;go_at_call 28;(refine (CGd.out _ S0.out.2).mono ?_;rintro e x1 ⟨rfl,hb⟩;have S1:=hid (And.intro (S0.out.1.keep hb) (S0.out.2.trans (hb.mono S0.out.2.size)));clear hb tok S0;clear p0 p1 p2 p3 p4 p5 p6 p7 p8 p9 p10;obtain ⟨p0,p1,p2,p3,p4,p5,p6,p7,p8,p9,p10⟩:=S1.out.1.cells))
  | (have tok:=S1.out;go_at_call 105;(refine (C1.out _ S1.out.2).mono ?_;rintro e x2 ⟨A1,c1,rfl,ho,hb⟩;have S2:=hid (And.intro (S1.out.1.keep hb) (S1.out.2.trans (hb.mono S1.out.2.size)));have U1:=hid (U8s.of_own ho HS.out.1);clear ho;clear hb tok S1;clear p0 p1 p2 p3 p4 p5 p6 p7 p8 p9 p10;obtain ⟨p0,p1,p2,p3,p4,p5,p6,p7,p8,p9,p10⟩:=S2.out.1.cells))
  | (have tok:=S2.out;go_at_call 106;(refine (C2.out _ S2.out.2).mono ?_;rintro e x3 ⟨A2,c2,rfl,ho,hb⟩;have S3:=hid (And.intro (S2.out.1.keep hb) (S2.out.2.trans (hb.mono S2.out.2.size)));have U2:=hid (U8s.of_own ho HS.out.2.1);clear ho;replace U1:=hid (U1.out.keep hb);clear hb tok S2;clear p0 p1 p2 p3 p4 p5 p6 p7 p8 p9 p10;obtain ⟨p0,p1,p2,p3,p4,p5,p6,p7,p8,p9,p10⟩:=S3.out.1.cells))
  | (have tok:=S3.out;go_at_call 105;(refine (C3.out _ S3.out.2).mono ?_;rintro e x4 ⟨A3,c3,rfl,ho,hb⟩;have S4:=hid (And.intro (S3.out.1.keep hb) (S3.out.2.trans (hb.mono S3.out.2.size)));have U3:=hid (U8s.of_own ho HS.out.2.2);clear ho;replace U1:=hid (U1.out.keep hb);replace U2:=hid (U2.out.keep hb);clear hb tok S3;clear p0 p1 p2 p3 p4 p5 p6 p7 p8 p9 p10;obtain ⟨p0,p1,p2,p3,p4,p5,p6,p7,p8,p9,p10⟩:=S4.out.1.cells;have T0:=hid (ue_start x4)))
  | (have h:=T0.out;go_at_call 107;(refine (longO_any _ A1 c1 _ _ X _ _ h.wr (fun W3 ho=>U1.out.keep (h.low.trans (ho.below (fun k hk=>(h.wr.lt k hk).1) h.low.size))) (by have:=EL.out;simp;omega) h.low.size).mono ?_;intro e z hA;obtain ⟨F1,rfl,hS⟩:=h.add hA;have T1:=hid (hS.is E1.out);clear h hA hS T0))
  | (have h:=T1.out;go_at_call 107;(refine (longO_any _ A2 c2 _ _ Y _ _ h.wr (fun W3 ho=>U2.out.keep (h.low.trans (ho.below (fun k hk=>(h.wr.lt k hk).1) h.low.size))) L1.out h.low.size).mono ?_;intro e z hA;obtain ⟨F2,rfl,hS⟩:=h.add hA;have T2:=hid (hS.is E2.out);clear h hA hS T1))
  | (have h:=T2.out;go_at_call 59;(refine (put_any _ _ _ _ Z _ _ h.wr (U3.out.keep h.low) L2.out h.low.size).mono ?_;intro e z hA;obtain ⟨F3,rfl,hS⟩:=h.add hA;have T3:=hid (hS.is EU.out.symm);clear h hA hS T2))
  | (have h:=T3.out;go_at_call 63;(refine (wbytes_any _ _ _ _ _ h.wr (by have:=EL.out;omega)).mono ?_;rintro e z5 ⟨A5,c5,rfl,ho,hb⟩;have T4:=hid (And.intro (own_base ho h.low.size) (h.low.trans (hb.mono h.low.size)));clear h ho hb T3)))
 go_ret2
 exact ⟨A5,c5,rfl,own_base T4.out.1 S4.out.2.size,S4.out.2.trans (T4.out.2.mono S4.out.2.size)⟩
end Upd
namespace Upd
open Go.RowKit Mem Segm Oct Att Seg PR
def EncW (q:Up) (EB:List Nat) (er:Int):Prop:=(goodU q=false∧EB=[]∧er=1)∨(goodU q=true∧4077<(encU q).length∧EB=[]∧er=6)∨(goodU q=true∧(encU q).length≤4077∧EB=encU q∧er=0)
theorem uenc_all (q:Up) (hln:lens q.at_.path≤100000) (hl1:q.gone.length≤1000) (hl2:q.here.length≤1000) (hsm:goodU q=true→Small (encU q)∧Small (encA q.at_)):∃ EB er,EncW q EB er∧∀ v W,Upds W v q→Shp W→Calls Tryz.prog 56 #[v] W (fun e w'=>∃ A c,e=.returned (.tuple #[.slice A EB.length c,.int .i64 er])∧U8s w' (.slice A EB.length c) EB∧Below W.heap.size W w'):=by
 cases hg:goodU q with
 | false=>exact ⟨[],1,.inl ⟨hg,rfl,rfl⟩,fun v W h hS=>(uenc_bad v q W h hln hg).mono fun e w' ⟨h1,h2⟩=>⟨none,0,h1,U8s.nil _,h2⟩⟩
 | true =>
  obtain ⟨s1,s2⟩:=hsm hg
  by_cases hE:(encU q).length≤4077
  ·exact ⟨encU q,0,.inr (.inr ⟨hg,hE,rfl,rfl⟩),fun v W h hS=>(uenc_ok v q W h hS hln hl1 hl2 s2 hg hE).mono fun e w' ⟨A,c,h1,h2,h3⟩=>⟨A,c,h1,U8s.of_own h2 s1,h3⟩⟩
  ·exact ⟨[],6,.inr (.inl ⟨hg,by omega,rfl,rfl⟩),fun v W h hS=>(uenc_long v q W h hS hln hl1 hl2 s2 hg (by omega)).mono fun e w' ⟨h1,h2⟩=>⟨none,0,h1,U8s.nil _,h2⟩⟩
end Upd
namespace Msg
open Go.RowKit Mem Oct Att PR Opn Upd Ntc Frm
open Go.Lib (hid)
theorem pgood13 (v:Value) (m:Ms) (w:World) (h:Msgs w v m) (hU:∀ v W,Upds W v m.up→Calls Tryz.prog 28 #[v] W (Tells (.bool (goodU m.up)) W)):Calls Tryz.prog 9 #[v] w (Tells (.bool (goodM m)) w):=by
 obtain ⟨U,N,rfl,hp,-,hu,hn⟩:=h
 obtain ⟨k,o,u,n⟩:=m
 dsimp only at hp hu hn hU ⊢
 have CO:=hid (fun W=>show Calls Tryz.prog 27 #[.agg (ocells o).toArray] W (Tells (.bool (goodO o)) W) from Opn.pgood_any o W)
 have CU:=hid hU
 have CN:=hid (fun v W (h:Note W v n)=>Ntc.good_any v n W h)
 have hb:=box_msg w (mcells k (ocells o) U N).toArray
 have BX:=hid (BoxM.new w 36 k hp)
 have HB:=hid hb
 have HU:=hid (hu.keep hb)
 have HN:=hid (hn.keep hb)
 clear hu hn hU hb
 have HG:=hid (show goodM ⟨k,o,u,n⟩=((decide (k=1) && goodO o) || (decide (k=2) && goodU u) || (decide (k=3) && goodN n) || decide (k=4)) from rfl)
 generalize goodM ⟨k,o,u,n⟩=g at HG ⊢
 generalize ocells o=O at CO BX HB HU HN ⊢
 go_enter Tryz.func9,Tryz.ntmps9
 go_upto_region 1 with fail
 generalize w.alloc (.cells (mcells k O U N).toArray 36)=w1 at BX HB HU HN ⊢
 have c0:=BX.out.c0
 clear hp
 generalize goodO o=g1 at CO HG
 generalize goodU u=g2 at CU HG
 generalize goodN n=g3 at CN HG
 rcases (show k=1∨k=2∨k=3∨k=4∨(k≠1∧k≠2∧k≠3∧k≠4) by omega) with rfl | rfl | rfl | rfl | ⟨h1,h2,h3,h4⟩
 focus
  obtain rfl:g=g1:=by simpa using HG.out
  have LO:=hid True.intro
  cases g
 rotate_left 2
 focus
  obtain rfl:g=g2:=by simpa using HG.out
  have LU:=hid True.intro
  cases g
 rotate_left 2
 focus
  obtain rfl:g=g3:=by simpa using HG.out
  have LN:=hid True.intro
  cases g
 rotate_left 2
 focus
  obtain rfl:g=true:=by simpa using HG.out
 rotate_left
 focus
  obtain rfl:g=false:=by simpa [h1,h2,h3,h4] using HG.out
  have z1:(k == 1)=false:=by simp [h1]
  have z2:(k == 2)=false:=by simp [h2]
  have z3:(k == 3)=false:=by simp [h3]
  have z4:(k == 4)=false:=by simp [h4]
 rotate_left
 all_goals
  clear HG
  go_wp2_with (first
   | (have tok:=LO.out;refine load_o BX.out _ rfl rfl (by kernel_rfl) ?_;clear LO tok)
   | (have tok:=LU.out;refine load_u BX.out _ rfl rfl (by kernel_rfl) ?_;clear LU tok)
   | (have tok:=LN.out;refine load_n BX.out _ rfl rfl (by kernel_rfl) ?_;clear LN tok)
   | (go_at_call 27;refine (CO.out _).mono ?_;rintro e x ⟨rfl,hb⟩;replace HB:=hid (HB.out.trans (hb.mono HB.out.size));replace BX:=hid (BX.out.keep hb);clear c0;have c0:=BX.out.c0;clear hb)
   | (go_at_call 28;refine (CU.out _ _ HU.out).mono ?_;rintro e x ⟨rfl,hb⟩;replace HB:=hid (HB.out.trans (hb.mono HB.out.size));replace BX:=hid (BX.out.keep hb);clear c0;have c0:=BX.out.c0;clear hb)
   | (go_at_call 29;refine (CN.out _ _ HN.out).mono ?_;rintro e x ⟨rfl,hb⟩;replace HB:=hid (HB.out.trans (hb.mono HB.out.size));replace BX:=hid (BX.out.keep hb);clear c0;have c0:=BX.out.c0;clear hb))
  go_ret
  exact ⟨rfl,HB.out⟩
end Msg
namespace Msg
open Go.RowKit Mem Oct Att PR Opn Upd Ntc Frm
open Go.Lib (hid)
theorem list11 {α:Type} {l:List α} (h:l.length=11):∃ a b c d e f g i j k m,l=[a,b,c,d,e,f,g,i,j,k,m]:=by
 match l,h with
 | [a,b,c,d,e,f,g,i,j,k,m],_=>exact ⟨a,b,c,d,e,f,g,i,j,k,m,rfl⟩
theorem list3 {α:Type} {l:List α} (h:l.length=3):∃ a b c,l=[a,b,c]:=by
 match l,h with
 | [a,b,c],_=>exact ⟨a,b,c,rfl⟩
theorem own13 (m:Ms) (U N:List Value) (w:World) (hp:Parts (ocells m.op) U N):Calls Tryz.prog 34 #[.agg (mcells m.kind (ocells m.op) U N).toArray] w (Tells (onlyV m U N) w):=by
 obtain ⟨k,⟨oa,oh,oi,fr⟩,u,n⟩:=m
 dsimp only at hp ⊢
 obtain ⟨u0,u1,u2,u3,u4,u5,u6,u7,u8,u9,u10,rfl⟩:=list11 hp.lu
 obtain ⟨n0,n1,n2,rfl⟩:=list3 hp.ln
 have HS:=hid (on_start (k:=k) w hp)
 have c0:=HS.out.1.c0
 unfold z19 at HS c0
 obtain ⟨w1,hw1⟩:∃ w1,(w.alloc (.cells (mcells k (ocells ⟨oa,oh,oi,fr⟩) [u0,u1,u2,u3,u4,u5,u6,u7,u8,u9,u10] [n0,n1,n2]).toArray 36)).alloc (.cells #[.int .i64 0,.int .u32 0,.int .i64 0,.int .u32 0,.bool false,.slice none 0 0,.int .i64 0,.int .i64 0,.slice none 0 0,.int .u32 0,.int .u32 0,.int .u32 0,.int .u32 0,.int .u32 0,.slice none 0 0,.slice none 0 0,.int .i64 0,.int .i64 0,.slice none 0 0] 36)=w1:=⟨_,rfl⟩
 rw [hw1] at HS c0
 have P0:=hid (parts_z zeroO)
 have HL:=hid hp
 clear hp
 rcases (show k=1∨k=2∨k=3∨k=4∨(k≠1∧k≠2∧k≠3∧k≠4) by omega) with rfl | rfl | rfl | rfl | ⟨h1,h2,h3,h4⟩
 focus
  have T1:=hid True.intro
  have PE:=hid (show Parts (ocells ⟨oa,oh,oi,fr⟩) zU zN from parts_z _)
  have HM:=hid (show onlyV ⟨1,⟨oa,oh,oi,fr⟩,u,n⟩ [u0,u1,u2,u3,u4,u5,u6,u7,u8,u9,u10] [n0,n1,n2]=.agg (mcells 1 (ocells ⟨oa,oh,oi,fr⟩) zU zN).toArray from rfl)
 rotate_left
 focus
  have T3:=hid True.intro
  have PE:=hid (show Parts (ocells zeroO) [u0,u1,u2,u3,u4,u5,u6,u7,u8,u9,u10] zN from Parts.of P0.out HL.out P0.out)
  have HM:=hid (show onlyV ⟨2,⟨oa,oh,oi,fr⟩,u,n⟩ [u0,u1,u2,u3,u4,u5,u6,u7,u8,u9,u10] [n0,n1,n2]=.agg (mcells 2 (ocells zeroO) [u0,u1,u2,u3,u4,u5,u6,u7,u8,u9,u10] zN).toArray from rfl)
 rotate_left
 focus
  have T5:=hid True.intro
  have PE:=hid (show Parts (ocells zeroO) zU [n0,n1,n2] from Parts.of P0.out P0.out HL.out)
  have HM:=hid (show onlyV ⟨3,⟨oa,oh,oi,fr⟩,u,n⟩ [u0,u1,u2,u3,u4,u5,u6,u7,u8,u9,u10] [n0,n1,n2]=.agg (mcells 3 (ocells zeroO) zU [n0,n1,n2]).toArray from rfl)
 rotate_left
 focus
  have TF:=hid True.intro
  have PE:=hid P0.out
  have HM:=hid (show onlyV ⟨4,⟨oa,oh,oi,fr⟩,u,n⟩ [u0,u1,u2,u3,u4,u5,u6,u7,u8,u9,u10] [n0,n1,n2]=.agg (mcells 4 (ocells zeroO) zU zN).toArray from rfl)
 rotate_left
 focus
  have y1:(k == 1)=false:=by simp [h1]
  have y2:(k == 2)=false:=by simp [h2]
  have y3:(k == 3)=false:=by simp [h3]
  have y4:(k == 4)=false:=by simp [h4]
  have TZ:=hid True.intro
  have PE:=hid P0.out
  have ek:onlyV ⟨k,⟨oa,oh,oi,fr⟩,u,n⟩ [u0,u1,u2,u3,u4,u5,u6,u7,u8,u9,u10] [n0,n1,n2]=.agg (mcells 0 (ocells zeroO) zU zN).toArray:=by
   show Value.agg (mcells (if 1≤k∧k≤4 then k else 0) (ocells (if k=1 then ⟨oa,oh,oi,fr⟩ else zeroO)) (if k=2 then [u0,u1,u2,u3,u4,u5,u6,u7,u8,u9,u10] else zU) (if k=3 then [n0,n1,n2] else zN)).toArray=_
   rw [if_neg h1,if_neg h2,if_neg h3,if_neg (by omega)]
  have HM:=hid ek
  clear ek h1 h2 h3 h4
 rotate_left
 all_goals
  clear HL
  go_enter Tryz.func34,Tryz.ntmps34
  go_wp2_with (first
   | (have tok:=T1.out;refine load_o HS.out.1 _ rfl rfl (by kernel_rfl) ?_;unfold ocells;have T2:=hid tok;clear T1 tok)
   | (have tok:=T3.out;refine load_u HS.out.1 _ rfl rfl (by kernel_rfl) ?_;have T2:=hid tok;clear T3 tok)
   | (have tok:=T5.out;refine load_n HS.out.1 _ rfl rfl (by kernel_rfl) ?_;have T2:=hid tok;clear T5 tok)
   | (have tok:=T2.out;refine store_m HS.out.2.1 PE.out _ _ rfl rfl (by rfl) (by kernel_rfl) ?_;intro w9 hb ht;have BR:=hid hb;have HR:=hid (ht.low (Nat.le_succ _) HS.out.2.2);clear T2 tok hb ht c0)
   | (have tok:=TF.out;refine store_m HS.out.2.1 (k2:=4) PE.out _ _ rfl rfl (by rfl) (by kernel_rfl) ?_;intro w9 hb ht;have BR:=hid hb;have HR:=hid (ht.low (Nat.le_succ _) HS.out.2.2);clear TF tok hb ht c0)
   | (have tok:=TZ.out;refine store_m HS.out.2.1 (k2:=0) PE.out _ _ rfl rfl (by rfl) (by kernel_rfl) ?_;intro w9 hb ht;have BR:=hid hb;have HR:=hid (ht.low (Nat.le_succ _) HS.out.2.2);clear TZ tok hb ht c0))
  refine bodyPost_ret (res_msg rfl rfl BR.out) rfl ?_
  exact ⟨by rw [HM.out],HR.out⟩
end Msg
namespace Upd
open Go.RowKit Mem Segm Oct Att Seg PR
theorem rgood_any (va:Value) (a:Up) (w:World) (ha:Upds w va a) (hbk:bulk a.at_.path≤50000) (hln:lens a.at_.path≤100000) (hfit:FitS 1000 a.at_.path) (hcl:a.at_.comms.length≤1000):Calls Tryz.prog 31 #[va] w (Tells (.bool (goodU a)) w):=by
 obtain ⟨vg,vp,vc,vh,rfl,hg,ht,hh⟩:=ha
 obtain ⟨ag,a,ah⟩:=a
 dsimp only at *
 have C1:=hid (fun W (h:Below w.heap.size w W)=>refGoods_any vg _ W (hg.keep h))
 have C2:=hid (fun W (h:Below w.heap.size w W)=>refGoods_any vh _ W (hh.keep h))
 have C3:=hid (fun W (h:Below w.heap.size w W)=>refSame8 _ _ _ _ W (ht.keep h) (attrs_zero W))
 have C4:=hid (fun W (h:Below w.heap.size w W)=>refGood8 _ _ W (ht.keep h) hbk hln hfit hcl)
 have H1:=hid (fun W=>refHas8 a.has 1 (.int .i64 a.origin) vp (.int .u32 (a.hop:Nat)) (.int .u32 (a.med:Nat)) (.int .u32 (a.pref:Nat)) (.int .u32 (a.aas:Nat)) (.int .u32 (a.aid:Nat)) vc W)
 have H2:=hid (fun W=>refHas8 a.has 2 (.int .i64 a.origin) vp (.int .u32 (a.hop:Nat)) (.int .u32 (a.med:Nat)) (.int .u32 (a.pref:Nat)) (.int .u32 (a.aas:Nat)) (.int .u32 (a.aid:Nat)) vc W)
 have H3:=hid (fun W=>refHas8 a.has 3 (.int .i64 a.origin) vp (.int .u32 (a.hop:Nat)) (.int .u32 (a.med:Nat)) (.int .u32 (a.pref:Nat)) (.int .u32 (a.aas:Nat)) (.int .u32 (a.aid:Nat)) vc W)
 obtain ⟨A,c,rfl,hlc,hc⟩:=hh.form
 unfold goodU wellB
 dsimp only
 unfold aV at C3 C4
 generalize ag.all good=b1 at C1 ⊢
 generalize ah.all good=b2 at C2 ⊢
 generalize sameA a zeroA=b3 at C3 ⊢
 generalize goodA a=b4 at C4 ⊢
 generalize hasB a.has 1=e1 at H1 ⊢
 generalize hasB a.has 2=e2 at H2 ⊢
 generalize hasB a.has 3=e3 at H3 ⊢
 have K:=hid (And.intro (BoxU.new w 31 a vg vp vc (.slice A ah.length c)) ((Below.refl w.heap.size w).alloc (Nat.le_refl _) (.cells #[vg,.int .i64 a.has,.int .i64 a.origin,vp,.int .u32 a.hop,.int .u32 a.med,.int .u32 a.pref,.int .u32 a.aas,.int .u32 a.aid,vc,(.slice A ah.length c)] 31)))
 obtain ⟨p0,p1,p2,p3,p4,p5,p6,p7,p8,p9,p10⟩:=K.out.1.cells
 have T0:=hid True.intro
 unfold uV
 rcases b1 with _ | _
 rotate_left
 rcases b2 with _ | _
 rotate_left
 rcases Decidable.em (ah=[]) with hz | hz
 have y1:((ah.length:Int) == 0)=true:=by simp [hz]
 rw [if_pos hz]
 clear hz
 rotate_left
 have y1:((ah.length:Int) == 0)=false:=by simpa using hz
 rw [if_neg hz]
 clear hz
 rcases b4 with _ | _
 rotate_left
 rcases e1 with _ | _
 rotate_left
 rcases e2 with _ | _
 rotate_left
 all_goals
  clear hg ht hh
  try simp only [Bool.true_and,Bool.false_and,Bool.and_false,Bool.and_true]
  go_enter Tryz.func31,Tryz.ntmps31
  go_wp2_with (first
   | (have tok:=T0.out;go_at_call 70;(refine (C1.out _ K.out.2).mono ?_;rintro e x ⟨rfl,hb⟩;replace K:=hid (And.intro (K.out.1.keep hb) (K.out.2.trans (hb.mono K.out.2.size)));clear hb tok T0 p0 p1 p2 p3 p4 p5 p6 p7 p8 p9 p10;obtain ⟨p0,p1,p2,p3,p4,p5,p6,p7,p8,p9,p10⟩:=K.out.1.cells;have T1:=hid True.intro))
   | (have tok:=T1.out;go_at_call 70;(refine (C2.out _ K.out.2).mono ?_;rintro e x ⟨rfl,hb⟩;replace K:=hid (And.intro (K.out.1.keep hb) (K.out.2.trans (hb.mono K.out.2.size)));clear hb tok T1 p0 p1 p2 p3 p4 p5 p6 p7 p8 p9 p10;obtain ⟨p0,p1,p2,p3,p4,p5,p6,p7,p8,p9,p10⟩:=K.out.1.cells;have T2:=hid True.intro))
   | (have tok:=T2.out;go_at_call 71;(refine (C3.out _ K.out.2).mono ?_;rintro e x ⟨rfl,hb⟩;replace K:=hid (And.intro (K.out.1.keep hb) (K.out.2.trans (hb.mono K.out.2.size)));clear hb tok T2 p0 p1 p2 p3 p4 p5 p6 p7 p8 p9 p10;obtain ⟨p0,p1,p2,p3,p4,p5,p6,p7,p8,p9,p10⟩:=K.out.1.cells;have T3:=hid True.intro))
   | (have tok:=T2.out;go_at_call 72;(refine (C4.out _ K.out.2).mono ?_;rintro e x ⟨rfl,hb⟩;replace K:=hid (And.intro (K.out.1.keep hb) (K.out.2.trans (hb.mono K.out.2.size)));clear hb tok T2 p0 p1 p2 p3 p4 p5 p6 p7 p8 p9 p10;obtain ⟨p0,p1,p2,p3,p4,p5,p6,p7,p8,p9,p10⟩:=K.out.1.cells;have T3:=hid True.intro))
   | (have tok:=T3.out;go_at_call 73;(refine (H1.out _).mono ?_;rintro e x ⟨rfl,hb⟩;replace K:=hid (And.intro (K.out.1.keep hb) (K.out.2.trans (hb.mono K.out.2.size)));clear hb tok T3 p0 p1 p2 p3 p4 p5 p6 p7 p8 p9 p10;obtain ⟨p0,p1,p2,p3,p4,p5,p6,p7,p8,p9,p10⟩:=K.out.1.cells;have T4:=hid True.intro))
   | (have tok:=T4.out;go_at_call 73;(refine (H2.out _).mono ?_;rintro e x ⟨rfl,hb⟩;replace K:=hid (And.intro (K.out.1.keep hb) (K.out.2.trans (hb.mono K.out.2.size)));clear hb tok T4 p0 p1 p2 p3 p4 p5 p6 p7 p8 p9 p10;obtain ⟨p0,p1,p2,p3,p4,p5,p6,p7,p8,p9,p10⟩:=K.out.1.cells;have T5:=hid True.intro))
   | (have tok:=T5.out;go_at_call 73;(refine (H3.out _).mono ?_;rintro e x ⟨rfl,hb⟩;replace K:=hid (And.intro (K.out.1.keep hb) (K.out.2.trans (hb.mono K.out.2.size)));clear hb tok T5 p0 p1 p2 p3 p4 p5 p6 p7 p8 p9 p10;obtain ⟨p0,p1,p2,p3,p4,p5,p6,p7,p8,p9,p10⟩:=K.out.1.cells;have T6:=hid True.intro)))
  go_ret
  exact ⟨rfl,K.out.2⟩
end Upd
namespace Upd
open Go.RowKit Mem Oct Att PR
structure Grw (w0:World) (v:Value) (n:Nat) (l:List Nat) (W:World):Prop where
 own:W.ownsRow w0.heap.size 5 1 v n (cells8 l)
 low:Below w0.heap.size w0 W
section
variable {w0 W W2:World} {v v2:Value} {l l2:List Nat} {n n2:Nat}
theorem Grw.below (h:Grw w0 v n l W) (hb:Below W.heap.size W W2):Grw w0 v n l W2:=⟨own_keep h.own hb,h.low.trans (hb.mono h.low.size)⟩
theorem Grw.grow (h:Grw w0 v n l W) (hg:W.grownBy W2 v.ownBlock) (ho:W2.ownsRow w0.heap.size 5 1 v2 n2 (cells8 l2)):Grw w0 v2 n2 l2 W2 :=
 ⟨ho,h.low.trans (below_of_grown h.own hg h.low.size)⟩
end
theorem rencode_any (va:Value) (a:Up) (w:World) (ha:Upds w va a) (hgu:goodU a=true) (hl1:a.gone.length≤1000) (hl2:a.here.length≤1000) (hsm:Small (encA a.at_)):Calls Tryz.prog 44 #[va] w (Gives8 (encU a) w):=by
 obtain ⟨i0,E0⟩:=elem8
 obtain ⟨g1,g2,g3⟩:=goodU_at hgu
 obtain ⟨vg,vp,vc,vh,rfl,hg,ht,hh⟩:=ha
 obtain ⟨ag,a,ah⟩:=a
 dsimp only at hg ht hh hl1 hl2 g1 g2 g3 hsm
 have C1:=hid (fun W (h:Below w.heap.size w W)=>refEncode_any vg _ W (hg.keep h) g1 hl1)
 have C2:=hid (fun W (h:Below w.heap.size w W)=>refEncode8 _ _ W (ht.keep h) g3)
 have C3:=hid (fun W (h:Below w.heap.size w W)=>refEncode_any vh _ W (hh.keep h) g2 hl2)
 unfold aV at C2
 have n1:=encs_len g1
 have n2:(encA a).length≤100000:=by have h1:=encTo_len g3 8;show (encTo a 8).length≤_;omega
 have n3:=encs_len g2
 have HS:=hid (show Small (encs ag)∧Small (encA a) from ⟨encs_small g1,hsm⟩)
 have EU:=hid (show big (encs ag).length 2 ++ encs ag ++ big (encA a).length 2 ++ encA a ++ encs ah=encU ⟨ag,a,ah⟩ from by unfold encU;rfl)
 generalize encU ⟨ag,a,ah⟩=E at EU ⊢
 generalize encs ag=X at C1 n1 HS EU
 generalize encA a=Y at C2 n2 HS EU
 generalize encs ah=Z at C3 n3 EU
 have CB:=hid (fun (n:Nat) (hn:n≤100000) W=>show Calls Tryz.prog 42 #[.int .u64 n,.int .i64 2] W (fun e w'=>∃ A c,e=.returned (.slice A 2 c)∧w'.ownsRow W.heap.size 5 1 (.slice A 2 c) 2 (cells8 (big n 2))∧Below W.heap.size W w') from (big_any n 2 W (by omega) (by omega)).mono fun e w' h=>by
  obtain ⟨A,c,h1,h2,h3⟩:=h
  rw [big_len] at h1 h2
  exact ⟨A,c,h1,h2,h3⟩)
 have hx5:X.length≤5000:=by omega
 have hz5:Z.length≤5000:=by omega
 have wx:IntKind.u64.wrap (X.length:Int)=(X.length:Int):=by rw [IntKind.wrap_u64];omega
 have wy:IntKind.u64.wrap (Y.length:Int)=(Y.length:Int):=by rw [IntKind.wrap_u64];omega
 have CBX:=hid (CB.out X.length (by omega))
 have CBY:=hid (CB.out Y.length n2)
 have S0:=hid (And.intro (BoxU.new w 31 a vg vp vc vh) ((Below.refl w.heap.size w).alloc (Nat.le_refl _) (.cells #[vg,.int .i64 a.has,.int .i64 a.origin,vp,.int .u32 a.hop,.int .u32 a.med,.int .u32 a.pref,.int .u32 a.aas,.int .u32 a.aid,vc,vh] 31)))
 obtain ⟨p0,p1,p2,p3,p4,p5,p6,p7,p8,p9,p10⟩:=S0.out.1.cells
 unfold uV Gives8
 clear hg ht hh g1 g2 g3 hgu n1 n3 hl1 hl2 CB hsm
 go_enter Tryz.func44,Tryz.ntmps44
 go_wp2
 have S1:=hid (And.intro (S0.out.1.keep (Below.refl _ _).drew) (S0.out.2.trans ((Below.refl _ _).drew.mono S0.out.2.size)))
 clear p0 p1 p2 p3 p4 p5 p6 p7 p8 p9 p10
 obtain ⟨p0,p1,p2,p3,p4,p5,p6,p7,p8,p9,p10⟩:=S1.out.1.cells
 go_region_held3 (fun w'=>w'.cell? ⟨w.heap.size,0,none⟩=some vg∧w'.cell? ⟨w.heap.size,1,none⟩=some (.int .i64 a.has)∧w'.cell? ⟨w.heap.size,2,none⟩=some (.int .i64 a.origin)∧w'.cell? ⟨w.heap.size,3,none⟩=some vp∧w'.cell? ⟨w.heap.size,4,none⟩=some (.int .u32 a.hop)∧w'.cell? ⟨w.heap.size,5,none⟩=some (.int .u32 a.med)∧w'.cell? ⟨w.heap.size,6,none⟩=some (.int .u32 a.pref)∧w'.cell? ⟨w.heap.size,7,none⟩=some (.int .u32 a.aas)∧w'.cell? ⟨w.heap.size,8,none⟩=some (.int .u32 a.aid)∧w'.cell? ⟨w.heap.size,9,none⟩=some vc∧w'.cell? ⟨w.heap.size,10,none⟩=some vh) (exact ⟨by assumption,by assumption,by assumption,by assumption,by assumption,by assumption,by assumption,by assumption,by assumption,by assumption,by assumption⟩) (first
  | (have tok:=S1.out;go_at_call 78;(refine (C1.out _ tok.2).mono ?_;rintro e z ⟨A1,k1,rfl,ho,hb⟩;have U1:=hid (U8s.of_own ho HS.out.1);have S2:=hid (And.intro (tok.1.keep hb) (tok.2.trans (hb.mono tok.2.size)));clear ho hb tok S1;clear p0 p1 p2 p3 p4 p5 p6 p7 p8 p9 p10;obtain ⟨p0,p1,p2,p3,p4,p5,p6,p7,p8,p9,p10⟩:=S2.out.1.cells))
  | (have tok:=S2.out;go_at_call 79;(refine (C2.out _ tok.2).mono ?_;rintro e z1 ⟨A2,k2,rfl,ho,hb⟩;have U2:=hid (U8s.of_own ho HS.out.2);have V1:=hid (U1.out.keep hb);have S3:=hid (And.intro (tok.1.keep hb) (tok.2.trans (hb.mono tok.2.size)));clear ho hb tok S2 U1;clear p0 p1 p2 p3 p4 p5 p6 p7 p8 p9 p10;obtain ⟨p0,p1,p2,p3,p4,p5,p6,p7,p8,p9,p10⟩:=S3.out.1.cells)))
 clear p0 p1 p2 p3 p4 p5 p6 p7 p8 p9 p10
 have S3b:=hid S3.out.2.size
 have HK:=hid (fun (W:World) (h:Below z1.heap.size z1 W)=>And.intro (V1.out.keep h).1 (And.intro (U2.out.keep h).1 (And.intro (S3.out.1.keep h) (S3.out.2.trans (h.mono S3.out.2.size)))))
 go_wp2_with (first
  | (have tok:=S3.out;go_at_call 42;(refine (CBX.out _).mono ?_;rintro e z ⟨A3,k3,rfl,ho,hb⟩;have T1:=hid (Grw.mk (l:=big X.length 2) ho hb);clear ho hb tok S3))
  | (have h:=T1.out;at_builtin;(refine wpList_append_row rfl (.tmp 15) (.tmp 16) rfl E0 z1.heap.size _ 2 _ rfl h.own _ X.length _ rfl ((HK.out _ h.low).1) (ones8 _) (by unfold maxLen;omega) (by omega) h.low.size (2+X.length) rfl ?_;intro A4 k4 z hown hgr hat hb1;rw [← cells8_append] at hown;have T2:=hid (h.grow (v2:=.slice A4 (2+X.length) k4) (n2:=(2+X.length)) hgr hown);clear hown hgr hat hb1 h T1))
  | (have h:=T2.out;go_at_call 42;(refine (CBY.out _).mono ?_;rintro e z ⟨A5,k5,rfl,ho,hb⟩;have R5:=hid (Row.of_own ho);have T3:=hid (h.below hb);clear ho hb h T2))
  | (have h:=T3.out;at_builtin;(refine wpList_append_row rfl (.tmp 18) (.tmp 22) rfl E0 z1.heap.size _ (2+X.length) _ rfl h.own _ 2 _ rfl (R5.out) (ones8 _) (by unfold maxLen;omega) (by omega) h.low.size (2+X.length+2) rfl ?_;intro A6 k6 z hown hgr hat hb1;rw [← cells8_append] at hown;have T4:=hid (h.grow (v2:=.slice A6 (2+X.length+2) k6) (n2:=(2+X.length+2)) hgr hown);clear hown hgr hat hb1 h T3))
  | (have h:=T4.out;at_builtin;(refine wpList_append_row rfl (.tmp 23) (.tmp 24) rfl E0 z1.heap.size _ (2+X.length+2) _ rfl h.own _ Y.length _ rfl ((HK.out _ h.low).2.1) (ones8 _) (by unfold maxLen;omega) (by omega) h.low.size (2+X.length+2+Y.length) rfl ?_;intro A7 k7 z hown hgr hat hb1;rw [← cells8_append] at hown;clear R5;have T5:=hid (h.grow (v2:=.slice A7 (2+X.length+2+Y.length) k7) (n2:=(2+X.length+2+Y.length)) hgr hown);clear hown hgr hat hb1 h T4;obtain ⟨p0,p1,p2,p3,p4,p5,p6,p7,p8,p9,p10⟩:=(HK.out _ T5.out.low).2.2.1.cells))
  | (have h:=T5.out;go_at_call 78;(refine (C3.out _ (HK.out _ h.low).2.2.2).mono ?_;rintro e z ⟨A8,k8,rfl,ho,hb⟩;have R8:=hid (Row.of_own ho);have T6:=hid (h.below hb);clear ho hb h T5))
  | (have h:=T6.out;at_builtin;(refine wpList_append_row rfl (.tmp 26) (.tmp 29) rfl E0 z1.heap.size _ (2+X.length+2+Y.length) _ rfl h.own _ Z.length _ rfl (R8.out) (ones8 _) (by unfold maxLen;omega) (by omega) h.low.size (2+X.length+2+Y.length+Z.length) rfl ?_;intro A9 k9 z hown hgr hat hb1;rw [← cells8_append] at hown;rw [EU.out] at hown;have T7:=hid (h.grow (v2:=.slice A9 (2+X.length+2+Y.length+Z.length) k9) (n2:=(2+X.length+2+Y.length+Z.length)) hgr hown);clear hown hgr hat hb1 h T6)))
 go_ret
 have hn:X.length+Y.length+Z.length+4=E.length:=by rw [← EU.out];simp [big_len];omega
 have e:2+X.length+2+Y.length+Z.length=E.length:=by omega
 rw [e] at T7
 exact ⟨A9,k9,by rw [← e];rfl,own_base T7.out.own (S3b.out),(HK.out _ T7.out.low).2.2.2⟩
end Upd
end Go.Proofs.YtjfmompgkkdliaaGreatDoor
