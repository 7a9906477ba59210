/- Part of the proof. -/
import Derived.Test.YtjfmompgkkdliaaGreatDoorH23
import Derived.Test.YtjfmompgkkdliaaGreatDoorH07
import Derived.Test.YtjfmompgkkdliaaGreatDoorH06
import Derived.Test.YtjfmompgkkdliaaGreatDoorH10
import Derived.Test.YtjfmompgkkdliaaGreatDoorH04
import Derived.Test.YtjfmompgkkdliaaGreatDoorH03
import Derived.Deep.MidRow
import Derived.Test.YtjfmompgkkdliaaGreatDoorProg
import Derived.Test.YtjfmompgkkdliaaGreatDoorH16
import Derived.Test.YtjfmompgkkdliaaGreatDoorH02
import Derived.WalkKit
import Derived.Test.YtjfmompgkkdliaaGreatDoorH11
open Go.Lib (hid)
set_option maxRecDepth 100000
set_option maxHeartbeats 40000000
namespace Go.Proofs.YtjfmompgkkdliaaGreatDoor
namespace Upd
open Oct Att PR
def wellB (h:Int):Bool:=hasB h 1 && hasB h 2 && hasB h 3
theorem wellN_yes {h:Int} (hw:wellB h=true):wellN h=⟨0,0,[]⟩:=by
 unfold wellB at hw
 simp only [Bool.and_eq_true] at hw
 obtain ⟨⟨h1,h2⟩,h3⟩:=hw
 unfold wellN
 rw [if_neg (by rw [h1];decide),if_neg (by rw [h2];decide),if_neg (by rw [h3];decide)]
theorem wellN_no {h:Int} (hw:wellB h=false):∃ k:Nat,1≤k∧k≤3∧wellN h=⟨3,3,[k]⟩:=by
 unfold wellN
 by_cases h1:hasB h 1=false
 ·exact ⟨1,by omega,by omega,if_pos h1⟩
 ·rw [if_neg h1]
  by_cases h2:hasB h 2=false
  ·exact ⟨2,by omega,by omega,if_pos h2⟩
  ·rw [if_neg h2]
   by_cases h3:hasB h 3=false
   ·exact ⟨3,by omega,by omega,if_pos h3⟩
   ·unfold wellB at hw
    simp only [Bool.not_eq_false] at h1 h2 h3
    rw [h1,h2,h3] at hw
    cases hw
def form1:No:=⟨3,1,[]⟩
def decU3 (g:List Pf) (a:At) (d:List Nat):No ⊕ Up:=if d=[] then .inr ⟨g,zeroA,[]⟩ else if wellB a.has=false then .inl (wellN a.has) else match dec val d with
 | none=>.inl ⟨3,10,[]⟩
 | some h=>.inr ⟨g,a,h⟩
def decU2 (g:List Pf) (r:No ⊕ At) (d:List Nat):No ⊕ Up:=match r with
 | .inl n=>.inl n
 | .inr a=>decU3 g a d
def decU1 (g:Option (List Pf)) (c:List Nat):No ⊕ Up:=match g with
 | none=>.inl form1
 | some g=>if c.length<2 then .inl form1 else if c.length<2+val (c.take 2) then .inl form1 else decU2 g (decodeA ((c.drop 2).take (val (c.take 2)))) (c.drop (2+val (c.take 2)))
def decU (b:List Nat):No ⊕ Up:=if b.length<2 then .inl form1 else if b.length<2+val (b.take 2) then .inl form1 else decU1 (dec val ((b.drop 2).take (val (b.take 2)))) (b.drop (2+val (b.take 2)))
def outU:No ⊕ Up→Up × No
 | .inl n=>(zeroU,n)
 | .inr u=>(u,⟨0,0,[]⟩)
end Upd
namespace Msg
open Oct Att PR Opn Upd Ntc Frm
structure Ms where
 kind:Int
 op:Opn.Op
 up:Up
 no:No
instance:DecidableEq Opn.Op:=fun p q=>if h:p.an=q.an∧p.hold=q.hold∧p.ri=q.ri∧p.four=q.four then isTrue (by
  obtain ⟨a,n,r,f⟩:=p
  obtain ⟨b,m,s,g⟩:=q
  obtain ⟨h1,h2,h3,h4⟩:=h
  dsimp only at h1 h2 h3 h4
  rw [h1,h2,h3,h4]) else isFalse (fun e=>h (by rw [e];exact ⟨rfl,rfl,rfl,rfl⟩))
def zeroM:Ms:=⟨0,zeroO,zeroU,noN⟩
def sameM (a b:Ms):Bool:=decide (a.kind=b.kind) && decide (a.op=b.op) && sameU a.up b.up && sameN a.no b.no
theorem sameM_iff {a b:Ms}:sameM a b=true ↔ a=b:=by
 obtain ⟨a1,a2,a3,a4⟩:=a
 obtain ⟨b1,b2,b3,b4⟩:=b
 unfold sameM
 simp only [Bool.and_eq_true,decide_eq_true_eq,sameU_iff,sameN_iff,Ms.mk.injEq,and_assoc]
def ntcB (b:List Nat):Bool:=decide (2≤b.length∧b[0]?≠some 0∧b.length≤4077)
def ntcD (b:List Nat):No:=⟨((b[0]?).getD 0:Nat),((b[1]?).getD 0:Nat),b.drop 2⟩
def rawM (k:Int) (b:List Nat):Ms × No :=
 if k=1 then (⟨1,(outO (decO b)).1,zeroU,noN⟩,(outO (decO b)).2)
 else if k=2 then (⟨2,zeroO,(outU (decU b)).1,noN⟩,(outU (decU b)).2)
 else if k=3 then (if ntcB b then (⟨3,zeroO,zeroU,ntcD b⟩,noN) else (⟨3,zeroO,zeroU,noN⟩,⟨1,2,[]⟩))
 else if k=4 then (if b=[] then (⟨4,zeroO,zeroU,noN⟩,noN) else (⟨4,zeroO,zeroU,noN⟩,⟨1,2,[]⟩))
 else (⟨k,zeroO,zeroU,noN⟩,⟨1,3,[]⟩)
def decM (k:Int) (b:List Nat):Ms × No:=if (rawM k b).2.code=0 then rawM k b else (zeroM,(rawM k b).2)
def readL (bad:No):List Pc→List Ms × Nat × No
 | []=>([],0,bad)
 | (t,b) :: p=>if (decM t b).2.code=0 then ((decM t b).1 :: (readL bad p).1,19+b.length+(readL bad p).2.1,(readL bad p).2.2) else ([],0,(decM t b).2)
def readM (b:List Nat):List Ms × Nat × No:=readL (pcs b).2.2 (pcs b).1
end Msg
namespace Msg
open Go.RowKit Mem Oct Att PR Opn Upd Ntc Frm
def ocells (o:Opn.Op):List Value:=[.int .u32 o.an,.int .i64 o.hold,.int .u32 o.ri,.bool o.four]
def mcells (k:Int) (O U N:List Value):List Value:=.int .i64 k :: (O ++ (U ++ N))
theorem mcells_len {k:Int} {O U N:List Value} (hO:O.length=4) (hU:U.length=11) (hN:N.length=3):(mcells k O U N).length=19:=by simp [mcells,hO,hU,hN]
structure Parts (O U N:List Value):Prop where
 lo:O.length=4
 lu:U.length=11
 ln:N.length=3
 oo:∀ v∈O,v.oneCell'=true
 ou:∀ v∈U,v.oneCell'=true
 on:∀ v∈N,v.oneCell'=true
 n8:∀ v,v∈O∨v∈U∨v∈N→No8 v
def Msgs (W:World) (v:Value) (m:Ms):Prop:=∃ U N,v=.agg (mcells m.kind (ocells m.op) U N).toArray∧Parts (ocells m.op) U N∧m.op.ok∧Upds W (.agg U.toArray) m.up∧Note W (.agg N.toArray) m.no
theorem Msgs.keep {W W':World} {v:Value} {m:Ms} (h:Msgs W v m) (hb:Below W.heap.size W W'):Msgs W' v m:=by
 obtain ⟨U,N,h1,h2,h3,h4,h5⟩:=h
 exact ⟨U,N,h1,h2,h3,h4.keep hb,h5.keep hb⟩
theorem Parts.cells {O U N:List Value} (h:Parts O U N) (k:Int):∀ v∈mcells k O U N,v.oneCell'=true:=fun v hv=>by
 simp only [mcells,List.mem_cons,List.mem_append] at hv
 rcases hv with rfl | hv | hv | hv
 ·rfl
 ·exact h.oo v hv
 ·exact h.ou v hv
 ·exact h.on v hv
theorem mcells_at {k:Int} {O U N:List Value} (h:Parts O U N):(∀ (j:Nat) (v:Value),O[j]?=some v→(mcells k O U N)[1+j]?=some v)∧(∀ (j:Nat) (v:Value),U[j]?=some v→(mcells k O U N)[5+j]?=some v)∧(∀ (j:Nat) (v:Value),N[j]?=some v→(mcells k O U N)[16+j]?=some v):=by
 refine ⟨fun j v hv=>?_,fun j v hv=>?_,fun j v hv=>?_⟩
 ·have:=(List.getElem?_eq_some_iff.1 hv).1
  rw [Nat.add_comm]
  show (O ++ (U ++ N))[j]?=_
  rw [List.getElem?_append_left this,hv]
 ·have:=(List.getElem?_eq_some_iff.1 hv).1
  rw [show 5+j=(4+j)+1 by omega]
  show (O ++ (U ++ N))[4+j]?=_
  rw [List.getElem?_append_right (by rw [h.lo];omega),h.lo,Nat.add_sub_cancel_left,List.getElem?_append_left this,hv]
 ·rw [show 16+j=(15+j)+1 by omega]
  show (O ++ (U ++ N))[15+j]?=_
  rw [List.getElem?_append_right (by rw [h.lo];omega),h.lo,List.getElem?_append_right (by rw [h.lu];omega),h.lu,show 15+j - 4 - 11=j by omega,hv]
theorem agg_inj {A B:List Value} (h:Value.agg A.toArray=Value.agg B.toArray):A=B:=by
 injection h with h
 simpa using h
theorem cells_off (b:Nat):∀ (vs:List Value) (o:Nat) (W:World),(∀ k,k≠b→(W.setCells b o vs).heap[k]?=W.heap[k]?)∧(W.setCells b o vs).heap.size=W.heap.size
 | [],_,_=>⟨fun _ _=>rfl,rfl⟩
 | v :: vs,o,W=>by
  have h:=cells_off b vs (o+1) (W.setCell ⟨b,o,none⟩ v)
  exact ⟨fun k hk=>(h.1 k hk).trans (Go.RowKit.Below.heap_setCell _ _ _ _ (show k≠(⟨b,o,none⟩:Addr).block from hk)),h.2.trans (by simp)⟩
structure BoxM (W:World) (B:Nat) (k:Int) (O U N:List Value):Prop where
 lt:B<W.heap.size
 parts:Parts O U N
 c0:W.cell? ⟨B,0,none⟩=some (.int .i64 k)
 rO:W.rangeAt B 1 O
 rU:W.rangeAt B 5 U
 rN:W.rangeAt B 16 N
 free:∀ i,W.frozen? ⟨B,i,none⟩=false
 top:∀ i,19≤i→W.cell? ⟨B,i,none⟩=none
section
variable {W W':World} {B:Nat} {k:Int} {O U N:List Value}
theorem BoxM.below (h:BoxM W B k O U N) (hb:W'.heap[B]?=W.heap[B]?) (hs:W.heap.size≤W'.heap.size):BoxM W' B k O U N:=by
 have hc:∀ i,W'.cell? ⟨B,i,none⟩=W.cell? ⟨B,i,none⟩:=fun i=>World.cell?_of_block hb
 refine ⟨Nat.lt_of_lt_of_le h.lt hs,h.parts,(hc _).trans h.c0,fun j v hv=>(hc _).trans (h.rO j v hv),fun j v hv=>(hc _).trans (h.rU j v hv),fun j v hv=>(hc _).trans (h.rN j v hv),fun i=>?_,fun i hi=>(hc i).trans (h.top i hi)⟩
 have:=h.free i
 unfold World.frozen? at this ⊢
 simp only [hb]
 exact this
theorem BoxM.keep (h:BoxM W B k O U N) (hb:Below W.heap.size W W'):BoxM W' B k O U N:=h.below (hb.block B h.lt) hb.size
theorem BoxM.whole (h:BoxM W B k O U N):W.rangeAt B 0 (mcells k O U N):=by
 have h1:=h.parts.lo
 have h2:=h.parts.lu
 intro j v hv
 rw [Nat.zero_add]
 unfold mcells at hv
 match j,hv with
 | 0,hv =>
  injection hv with hv
  rw [← hv];exact h.c0
 | j+1,hv =>
  rw [List.getElem?_cons_succ,List.getElem?_append] at hv
  split at hv
  ·rw [Nat.add_comm];exact h.rO j v hv
  ·rw [List.getElem?_append] at hv
   split at hv
   ·have:=h.rU _ v hv
    rwa [show 5+(j - O.length)=j+1 by omega] at this
   ·have:=h.rN _ v hv
    rwa [show 16+(j - O.length - U.length)=j+1 by omega] at this
theorem BoxM.there (h:BoxM W B k O U N) (o n:Nat) (hn:o+n≤19):W.there B o n:=fun j hj=>by
 refine ⟨?_,h.free _⟩
 have h1:=h.whole.isSome (o+j) (by rw [mcells_len h.parts.lo h.parts.lu h.parts.ln];omega)
 rwa [Nat.zero_add] at h1
theorem BoxM.new (W:World) (t:TypeId) (k:Int) (h:Parts O U N):BoxM (W.alloc (.cells (mcells k O U N).toArray t)) W.heap.size k O U N:=by
 have hb:(W.alloc (.cells (mcells k O U N).toArray t)).heap[W.heap.size]?=some (.cells (mcells k O U N).toArray t (0,0)):=heap_alloc_new _ _
 have hc:∀ i,(W.alloc (.cells (mcells k O U N).toArray t)).cell? ⟨W.heap.size,i,none⟩=(mcells k O U N)[i]?:=fun i=>by
  unfold World.cell?
  dsimp only
  rw [hb]
  simp
 obtain ⟨h3,h4,h5⟩:=mcells_at (k:=k) h
 exact ⟨by simp,h,(hc 0).trans rfl,fun j v hv=>(hc _).trans (h3 j v hv),fun j v hv=>(hc _).trans (h4 j v hv),fun j v hv=>(hc _).trans (h5 j v hv),fun i=>Go.Joins.unfrozen_of_block hb i,fun i hi=>(hc i).trans (List.getElem?_eq_none (by rw [mcells_len h.lo h.lu h.ln];exact hi))⟩
theorem BoxM.zero (h:BoxM W B k O U N) (o:Nat) (ho:1≤o) (vs:List Value):(W.setCells B o vs).cell? ⟨B,0,none⟩=some (.int .i64 k):=by
 rw [World.cell?_setCells_out B vs o W ⟨B,0,none⟩ (fun _ _=>.inl (by show 0<o;omega))]
 exact h.c0
theorem BoxM.above (h:BoxM W B k O U N) (o:Nat) (vs:List Value) (ho:o+vs.length≤19) (i:Nat) (hi:19≤i):(W.setCells B o vs).cell? ⟨B,i,none⟩=none:=by
 rw [World.cell?_setCells_out B vs o W ⟨B,i,none⟩ (fun _ _=>.inr (by show o+vs.length≤i;omega))]
 exact h.top i hi
theorem BoxM.setO (h:BoxM W B k O U N) {O2:List Value} (h2:Parts O2 U N):BoxM (W.setCells B 1 O2) B k O2 U N:=by
 have hl:=h2.lo
 exact ⟨by rw [(cells_off B O2 1 W).2];exact h.lt,h2,h.zero 1 (by omega) O2,World.rangeAt_setCells_same _ _ _ _ (by rw [hl];exact h.there 1 4 (by omega)),World.rangeAt_setCells_apart h.rU _ _ _ (.inr (.inr (by omega))),World.rangeAt_setCells_apart h.rN _ _ _ (.inr (.inr (by omega))),fun i=>by rw [World.frozen?_setCells];exact h.free i,h.above 1 O2 (by omega)⟩
theorem BoxM.setU (h:BoxM W B k O U N) {U2:List Value} (h2:Parts O U2 N):BoxM (W.setCells B 5 U2) B k O U2 N:=by
 have hl:=h2.lu
 have hl2:=h2.lo
 exact ⟨by rw [(cells_off B U2 5 W).2];exact h.lt,h2,h.zero 5 (by omega) U2,World.rangeAt_setCells_apart h.rO _ _ _ (.inr (.inl (by omega))),World.rangeAt_setCells_same _ _ _ _ (by rw [hl];exact h.there 5 11 (by omega)),World.rangeAt_setCells_apart h.rN _ _ _ (.inr (.inr (by omega))),fun i=>by rw [World.frozen?_setCells];exact h.free i,h.above 5 U2 (by omega)⟩
theorem BoxM.setN (h:BoxM W B k O U N) {N2:List Value} (h2:Parts O U N2):BoxM (W.setCells B 16 N2) B k O U N2:=by
 have hl:=h2.ln
 have hl2:=h2.lo
 have hl3:=h2.lu
 exact ⟨by rw [(cells_off B N2 16 W).2];exact h.lt,h2,h.zero 16 (by omega) N2,World.rangeAt_setCells_apart h.rO _ _ _ (.inr (.inl (by omega))),World.rangeAt_setCells_apart h.rU _ _ _ (.inr (.inl (by omega))),World.rangeAt_setCells_same _ _ _ _ (by rw [hl];exact h.there 16 3 (by omega)),fun i=>by rw [World.frozen?_setCells];exact h.free i,h.above 16 N2 (by omega)⟩
theorem BoxM.setM (h:BoxM W B k O U N) {k2:Int} {O2 U2 N2:List Value} (h2:Parts O2 U2 N2):BoxM (W.setCells B 0 (mcells k2 O2 U2 N2)) B k2 O2 U2 N2:=by
 have hl:=mcells_len (k:=k2) h2.lo h2.lu h2.ln
 have hr:=World.rangeAt_setCells_same W B 0 (mcells k2 O2 U2 N2) (by rw [hl];exact h.there 0 19 (by omega))
 have hc:∀ j v,(mcells k2 O2 U2 N2)[j]?=some v→(W.setCells B 0 (mcells k2 O2 U2 N2)).cell? ⟨B,j,none⟩=some v:=fun j v hv=>by
  have:=hr j v hv
  rwa [Nat.zero_add] at this
 obtain ⟨h3,h4,h5⟩:=mcells_at (k:=k2) h2
 exact ⟨by rw [(cells_off B _ 0 W).2];exact h.lt,h2,hc 0 _ rfl,fun j v hv=>hc _ _ (h3 j v hv),fun j v hv=>hc _ _ (h4 j v hv),fun j v hv=>hc _ _ (h5 j v hv),fun i=>by rw [World.frozen?_setCells];exact h.free i,h.above 0 _ (by omega)⟩
theorem BoxM.no8 (h:BoxM W B k O U N) (i:Nat) (n:Int):W.cell? ⟨B,i,none⟩≠some (.int .u8 n):=fun e=>by
 have hl:=mcells_len (k:=k) h.parts.lo h.parts.lu h.parts.ln
 by_cases hi:i<19
 ·have h1:=h.whole i _ (List.getElem?_eq_getElem (by rw [hl];exact hi))
  rw [Nat.zero_add,e] at h1
  have h2:Value.int .u8 n∈mcells k O U N:=by
   rw [Option.some.inj h1]
   exact List.getElem_mem _
  simp only [mcells,List.mem_cons,List.mem_append] at h2
  rcases h2 with h2 | h2
  ·injection h2 with h2;cases h2
  ·exact h.parts.n8 _ h2 n rfl
 ·rw [h.top i (by omega)] at e
  cases e
end
end Msg
namespace Msg
open Go.RowKit Mem Oct Att
theorem box_msg (w:World) (cs:Array Value):Below w.heap.size w (w.alloc (.cells cs 36)):=(Below.refl _ w).alloc (Nat.le_refl _) _
structure Turned (B:Nat) (W W':World):Prop where
 os:W'.os=W.os
 tape:W'.tape=W.tape
 output:W'.output=W.output
 size:W'.heap.size=W.heap.size
 block:∀ k,k≠B→W'.heap[k]?=W.heap[k]?
theorem turned_cells (B:Nat):∀ (vs:List Value) (o:Nat) (W:World),Turned B W (W.setCells B o vs)
 | [],_,W=>⟨rfl,rfl,rfl,rfl,fun _ _=>rfl⟩
 | v :: vs,o,W=>by
  have h:=turned_cells B vs (o+1) (W.setCell ⟨B,o,none⟩ v)
  have h2:=(Below.refl 0 W).setCell (p:=⟨B,o,none⟩) (Nat.zero_le _) v
  exact ⟨h.os.trans h2.os,h.tape.trans h2.tape,h.output.trans h2.output,h.size.trans (by simp),fun k hk=>(h.block k hk).trans (Go.RowKit.Below.heap_setCell _ _ _ _ (show k≠(⟨B,o,none⟩:Addr).block from hk))⟩
theorem Turned.low {B n:Nat} {a W W':World} (h:Turned B W W') (hB:n≤B) (hb:Below n a W):Below n a W' :=
 ⟨h.os.trans hb.os,h.tape.trans hb.tape,h.output.trans hb.output,by rw [h.size];exact hb.size,fun k hk=>(h.block k (by omega)).trans (hb.block k hk)⟩
theorem BoxM.turned {B C:Nat} {W W':World} {k:Int} {O U N:List Value} (hb:BoxM W C k O U N) (h:Turned B W W') (hne:C≠B):BoxM W' C k O U N:=hb.below (h.block C hne) (Nat.le_of_eq h.size.symm)
section
variable {ops:Array Oper} {rest:List Oper} {op:Oper} {a:Act} {w:World} {Q:Exit→Act→World→Prop} {B:Nat} {k:Int} {O U N:List Value}
theorem load_row (hw:Region.wanted op (yielded ops a.tmps)=true) (ty:TypeId) (x:Operand) (ho:op.op=.load ty x) (o:Nat) (hx:a.eval x=.pointer (some ⟨B,o,none⟩)) (cs:List Value) (d:TypeDesc) (hc:w.rangeAt B o cs)
  (hu:Tryz.prog.underlying ty=some d) (hd:d.isRow=true) (hi:(Tryz.prog.info? ty).map (·.size)=some cs.length) (h:wpList Tryz.prog ops Q rest (a.put op.dst (.agg cs.toArray)) w):wpList Tryz.prog ops Q (op :: rest) a w:=by
 unfold wpList
 rw [if_pos hw]
 exact .inl (wp_load_mid ty x ho B o hx cs d hc hu hd hi h)
theorem load_o (hB:BoxM w B k O U N) (x:Operand) (ho:op.op=.load 24 x) (hx:a.eval x=.pointer (some ⟨B,1,none⟩)) (hw:Region.wanted op (yielded ops a.tmps)=true)
  (h:wpList Tryz.prog ops Q rest (a.put op.dst (.agg O.toArray)) w):wpList Tryz.prog ops Q (op :: rest) a w :=
 load_row hw _ x ho 1 hx O _ hB.rO Tryz.underlying24 rfl (by rw [hB.parts.lo];kernel_rfl) h
theorem load_u (hB:BoxM w B k O U N) (x:Operand) (ho:op.op=.load 31 x) (hx:a.eval x=.pointer (some ⟨B,5,none⟩)) (hw:Region.wanted op (yielded ops a.tmps)=true)
  (h:wpList Tryz.prog ops Q rest (a.put op.dst (.agg U.toArray)) w):wpList Tryz.prog ops Q (op :: rest) a w :=
 load_row hw _ x ho 5 hx U _ hB.rU Tryz.underlying31 rfl (by rw [hB.parts.lu];kernel_rfl) h
theorem load_n (hB:BoxM w B k O U N) (x:Operand) (ho:op.op=.load 34 x) (hx:a.eval x=.pointer (some ⟨B,16,none⟩)) (hw:Region.wanted op (yielded ops a.tmps)=true)
  (h:wpList Tryz.prog ops Q rest (a.put op.dst (.agg N.toArray)) w):wpList Tryz.prog ops Q (op :: rest) a w :=
 load_row hw _ x ho 16 hx N _ hB.rN Tryz.underlying34 rfl (by rw [hB.parts.ln];kernel_rfl) h
theorem load_m (hB:BoxM w B k O U N) (x:Operand) (ho:op.op=.load 36 x) (hx:a.eval x=.pointer (some ⟨B,0,none⟩)) (hw:Region.wanted op (yielded ops a.tmps)=true)
  (h:wpList Tryz.prog ops Q rest (a.put op.dst (.agg (mcells k O U N).toArray)) w):wpList Tryz.prog ops Q (op :: rest) a w :=
 load_row hw _ x ho 0 hx _ _ hB.whole Tryz.underlying36 rfl (by rw [mcells_len hB.parts.lo hB.parts.lu hB.parts.ln];kernel_rfl) h
theorem store_row (hw:Region.wanted op (yielded ops a.tmps)=true) (ty:TypeId) (x y:Operand) (ho:op.op=.store ty x y) (o:Nat) (cs:List Value) (hx:a.eval x=.pointer (some ⟨B,o,none⟩)) (hy:a.eval y=.agg cs.toArray)
  (ht:w.there B o cs.length) (hi:(Tryz.prog.info? ty).map (·.size)=some cs.length) (h1:∀ v∈cs,v.oneCell'=true) (h:wpList Tryz.prog ops Q rest (a.put op.dst undef) (w.setCells B o cs)):wpList Tryz.prog ops Q (op :: rest) a w:=by
 unfold wpList
 rw [if_pos hw]
 exact .inl (wp_store_mid ty x y ho B o cs.toArray hx hy (by simpa using ht) (by simpa using hi) (all_oneCell_toArray h1) h)
theorem store_o (hB:BoxM w B k O U N) {O2:List Value} (h2:Parts O2 U N) (x y:Operand) (ho:op.op=.store 24 x y) (hx:a.eval x=.pointer (some ⟨B,1,none⟩)) (hy:a.eval y=.agg O2.toArray) (hw:Region.wanted op (yielded ops a.tmps)=true)
  (h:∀ w',BoxM w' B k O2 U N→Turned B w w'→wpList Tryz.prog ops Q rest (a.put op.dst undef) w'):wpList Tryz.prog ops Q (op :: rest) a w :=
 store_row hw _ x y ho 1 O2 hx hy (by rw [h2.lo];exact hB.there 1 4 (by omega)) (by rw [h2.lo];kernel_rfl) h2.oo (h _ (hB.setO h2) (turned_cells _ _ _ _))
theorem store_u (hB:BoxM w B k O U N) {U2:List Value} (h2:Parts O U2 N) (x y:Operand) (ho:op.op=.store 31 x y) (hx:a.eval x=.pointer (some ⟨B,5,none⟩)) (hy:a.eval y=.agg U2.toArray) (hw:Region.wanted op (yielded ops a.tmps)=true)
  (h:∀ w',BoxM w' B k O U2 N→Turned B w w'→wpList Tryz.prog ops Q rest (a.put op.dst undef) w'):wpList Tryz.prog ops Q (op :: rest) a w :=
 store_row hw _ x y ho 5 U2 hx hy (by rw [h2.lu];exact hB.there 5 11 (by omega)) (by rw [h2.lu];kernel_rfl) h2.ou (h _ (hB.setU h2) (turned_cells _ _ _ _))
theorem store_n (hB:BoxM w B k O U N) {N2:List Value} (h2:Parts O U N2) (x y:Operand) (ho:op.op=.store 34 x y) (hx:a.eval x=.pointer (some ⟨B,16,none⟩)) (hy:a.eval y=.agg N2.toArray) (hw:Region.wanted op (yielded ops a.tmps)=true)
  (h:∀ w',BoxM w' B k O U N2→Turned B w w'→wpList Tryz.prog ops Q rest (a.put op.dst undef) w'):wpList Tryz.prog ops Q (op :: rest) a w :=
 store_row hw _ x y ho 16 N2 hx hy (by rw [h2.ln];exact hB.there 16 3 (by omega)) (by rw [h2.ln];kernel_rfl) h2.on (h _ (hB.setN h2) (turned_cells _ _ _ _))
theorem store_m (hB:BoxM w B k O U N) {k2:Int} {O2 U2 N2:List Value} (h2:Parts O2 U2 N2) (x y:Operand) (ho:op.op=.store 36 x y) (hx:a.eval x=.pointer (some ⟨B,0,none⟩)) (hy:a.eval y=.agg (mcells k2 O2 U2 N2).toArray) (hw:Region.wanted op (yielded ops a.tmps)=true)
  (h:∀ w',BoxM w' B k2 O2 U2 N2→Turned B w w'→wpList Tryz.prog ops Q rest (a.put op.dst undef) w'):wpList Tryz.prog ops Q (op :: rest) a w :=
 store_row hw _ x y ho 0 (mcells k2 O2 U2 N2) hx hy (by rw [mcells_len h2.lo h2.lu h2.ln];exact hB.there 0 19 (by omega)) (by rw [mcells_len h2.lo h2.lu h2.ln];kernel_rfl) (h2.cells k2) (h _ (hB.setM h2) (turned_cells _ _ _ _))
end
section
variable {ops:Array Oper} {rest:List Oper} {op:Oper} {a:Act} {w:World} {Q:Exit→Act→World→Prop} {B:Nat} {x0 x1 x2:Value}
theorem box3_there (h:Box3 w B 34 x0 x1 x2):w.there B 0 3:=fun j hj=>by
 refine ⟨?_,h.free _⟩
 obtain ⟨c0,c1,c2⟩:=h.cells
 match j,hj with
 | 0,_=>rw [c0];rfl
 | 1,_=>rw [c1];rfl
 | 2,_=>rw [c2];rfl
theorem box3_range (h:Box3 w B 34 x0 x1 x2):w.rangeAt B 0 [x0,x1,x2]:=fun j v hv=>by
 obtain ⟨c0,c1,c2⟩:=h.cells
 rw [Nat.zero_add]
 match j,hv with
 | 0,hv=>rw [← Option.some.inj hv];exact c0
 | 1,hv=>rw [← Option.some.inj hv];exact c1
 | 2,hv=>rw [← Option.some.inj hv];exact c2
theorem wp_store_b (hB:Box3 w B 34 x0 x1 x2) {y0 y1 y2:Value} (x y:Operand) {K:Act→World→Prop} (ho:op.op=.store 34 x y) (hx:a.eval x=.pointer (some ⟨B,0,none⟩)) (hy:a.eval y=.agg #[y0,y1,y2]) (h1:∀ v∈[y0,y1,y2],v.oneCell'=true)
  (h:∀ w',Box3 w' B 34 y0 y1 y2→Turned B w w'→K (a.put op.dst undef) w'):op.wp Tryz.prog a w K Q :=
 wp_store_mid _ x y ho B 0 #[y0,y1,y2] hx hy (box3_there hB) (by kernel_rfl) (all_oneCell_toArray h1) (h _ (hB.laid y0 y1 y2) (turned_cells B [y0,y1,y2] 0 w))
theorem store_b (hB:Box3 w B 34 x0 x1 x2) {y0 y1 y2:Value} (x y:Operand) (ho:op.op=.store 34 x y) (hx:a.eval x=.pointer (some ⟨B,0,none⟩)) (hy:a.eval y=.agg #[y0,y1,y2]) (h1:∀ v∈[y0,y1,y2],v.oneCell'=true) (hw:Region.wanted op (yielded ops a.tmps)=true)
  (h:∀ w',Box3 w' B 34 y0 y1 y2→Turned B w w'→wpList Tryz.prog ops Q rest (a.put op.dst undef) w'):wpList Tryz.prog ops Q (op :: rest) a w:=by
 unfold wpList
 rw [if_pos hw]
 exact .inl (wp_store_b hB x y ho hx hy h1 h)
theorem box3_turned {C:Nat} {t:TypeId} {w':World} (hb:Box3 w C t x0 x1 x2) (h:Turned B w w') (hne:C≠B):Box3 w' C t x0 x1 x2:=hb.below (fun k hk=>h.block k (by rw [hk];exact hne))
end
section
variable {ops:Array Oper} {op:Oper} {a:Act} {w:World} {Q:Exit→Act→World→Prop} {K:Act→World→Prop} {B:Nat} {k:Int} {O U N:List Value}
theorem wp_store_m (hB:BoxM w B k O U N) {k2:Int} {O2 U2 N2:List Value} (h2:Parts O2 U2 N2) (x y:Operand) (ho:op.op=.store 36 x y) (hx:a.eval x=.pointer (some ⟨B,0,none⟩)) (hy:a.eval y=.agg (mcells k2 O2 U2 N2).toArray)
  (h:∀ w',BoxM w' B k2 O2 U2 N2→Turned B w w'→K (a.put op.dst undef) w'):op.wp Tryz.prog a w K Q :=
 wp_store_mid _ x y ho B 0 (mcells k2 O2 U2 N2).toArray hx hy (by simpa [mcells_len h2.lo h2.lu h2.ln] using hB.there 0 19 (by omega)) (by simpa [mcells_len h2.lo h2.lu h2.ln] using (by kernel_rfl:(Tryz.prog.info? 36).map (·.size)=some 19)) (all_oneCell_toArray (h2.cells k2)) (h _ (hB.setM h2) (turned_cells _ _ _ _))
theorem wp_store_n (hB:BoxM w B k O U N) {N2:List Value} (h2:Parts O U N2) (x y:Operand) (ho:op.op=.store 34 x y) (hx:a.eval x=.pointer (some ⟨B,16,none⟩)) (hy:a.eval y=.agg N2.toArray)
  (h:∀ w',BoxM w' B k O U N2→Turned B w w'→K (a.put op.dst undef) w'):op.wp Tryz.prog a w K Q :=
 wp_store_mid _ x y ho B 16 N2.toArray hx hy (by simpa [h2.ln] using hB.there 16 3 (by omega)) (by simpa [h2.ln] using (by kernel_rfl:(Tryz.prog.info? 34).map (·.size)=some 3)) (all_oneCell_toArray h2.on) (h _ (hB.setN h2) (turned_cells _ _ _ _))
theorem tk_m {md:Region.Mode} {S:World→Prop} (i d:Nat) (x:Operand) {oi:Oper} {fuel:Nat} {listed:Array Bool} (hS:S w) (hB:∀ w,S w→BoxM w B k O U N) (h:wpAnyH Tryz.prog md ops Q S fuel (listed.setIfInBounds i true) (a.put (some d) (.agg (mcells k O U N).toArray)) w)
  (hp:Parts O U N) (ho:oi.op=.load 36 x) (hx:a.eval x=.pointer (some ⟨B,0,none⟩)) (hi:ops[i]?=some oi) (hd:oi.dst=some d) (hc:Take.nextOk md ops listed i=true) (hw:Region.wanted oi (yielded ops a.tmps)=true)
  (hQ:∀ c a w,Q (.panic c) (a.put (some d) (.agg (mcells k O U N).toArray)) w→Q (.panic c) a w):wpAnyH Tryz.prog md ops Q S (fuel+1) listed a w:=by
 unfold Take.nextOk at hc
 simp only [Bool.and_eq_true] at hc
 rw [← hd] at h
 exact wpAnyH_take hi hc.1 hc.2.1 hc.2.2 (fun c a w=>by rw [hd];exact hQ c a w) (yieldsIf_load_mid hw _ x ho B 0 hx _ _ (fun w hw=>(hB w hw).whole) Tryz.underlying36 rfl (by rw [mcells_len hp.lo hp.lu hp.ln];kernel_rfl)) hS h
end
theorem res_two {fn:Func} {tmps:Array Value} {w:World} {t s B C:Nat} {k:Int} {O U N:List Value} {x0 x1 x2:Value} (h:fn.results=#[.cell t 36,.cell s 34]) (ht:tmps.getD t undef=.pointer (some ⟨B,0,none⟩)) (hs:tmps.getD s undef=.pointer (some ⟨C,0,none⟩)) (hB:BoxM w B k O U N) (hC:Box3 w C 34 x0 x1 x2) :
  (results fn tmps).run Tryz.prog w=.ok (.tuple #[.agg (mcells k O U N).toArray,.agg #[x0,x1,x2]]) w:=by
 have hl:=run_loadVar_mid w B 0 36 _ _ hB.whole Tryz.underlying36 rfl (by rw [mcells_len hB.parts.lo hB.parts.lu hB.parts.ln];kernel_rfl)
 have hl2:=run_loadVar_mid w C 0 34 _ _ (box3_range hC) Tryz.underlying34 rfl (by kernel_rfl)
 rw [Array.getD_eq_getD_getElem?] at ht hs
 simp [results,h,ht,hs,hl,hl2,asAddr]
end Msg
namespace Msg
open Go.RowKit Mem Oct Att PR Opn Upd Ntc Frm
open Go.Lib (hid)
def zU:List Value:=[.slice none 0 0,.int .i64 0,.int .i64 0,.slice none 0 0,.int .u32 0,.int .u32 0,.int .u32 0,.int .u32 0,.int .u32 0,.slice none 0 0,.slice none 0 0]
def zN:List Value:=[.int .i64 0,.int .i64 0,.slice none 0 0]
theorem ones_o (o:Opn.Op):∀ v∈ocells o,v.oneCell'=true:=fun v hv=>by
 simp only [ocells,List.mem_cons,List.not_mem_nil,or_false] at hv
 rcases hv with rfl | rfl | rfl | rfl <;> rfl
theorem ones_zu:∀ v∈zU,v.oneCell'=true:=by decide
theorem ones_zn:∀ v∈zN,v.oneCell'=true:=by decide
theorem no8_of {l:List Value} (h:l.all (fun v=>match v with | .int .u8 _=>false | _=>true)=true):∀ v∈l,No8 v:=fun v hv n e=>by
 have:=List.all_eq_true.1 h v hv
 rw [e] at this
 cases this
theorem parts_z (o:Opn.Op):Parts (ocells o) zU zN:=⟨rfl,rfl,rfl,ones_o o,ones_zu,ones_zn,fun v hv=>hv.elim (no8_of (by rfl) v) (fun k=>k.elim (no8_of (by rfl) v) (no8_of (by rfl) v))⟩
theorem upds_z (W:World):Upds W (.agg zU.toArray) zeroU:=upds_zero W
theorem note_z (W:World):Note W (.agg zN.toArray) noN:=⟨by decide,by decide,_,rfl,U8s.nil W⟩
theorem zeroO_ok:zeroO.ok:=⟨by decide,by decide,by decide⟩
def z19:Array Value:=#[.int .i64 0,.int .u32 0,.int .i64 0,.int .u32 0,.bool false,.slice none 0 0,.int .i64 0,.int .i64 0,.slice none 0 0,.int .u32 0,.int .u32 0,.int .u32 0,.int .u32 0,.int .u32 0,.slice none 0 0,.slice none 0 0,.int .i64 0,.int .i64 0,.slice none 0 0]
theorem z19_is:z19=(mcells 0 (ocells zeroO) zU zN).toArray:=rfl
end Msg
namespace Msg
open Go.RowKit Mem Oct Att PR Opn Upd Ntc Frm
open Go.Lib (hid)
theorem eql_open (W:World) (o p:Opn.Op):(binOp .eql 24 (.agg (ocells o).toArray) (.agg (ocells p).toArray)).run Tryz.prog W=.ok (.bool (decide (o=p))) W:=by
 obtain ⟨a,h,r,f⟩:=o
 obtain ⟨b,i,s,g⟩:=p
 unfold ocells
 go_simp
 by_cases h1:a=b <;> by_cases h2:h=i <;> by_cases h3:r=s <;> by_cases h4:f=g <;> simp [h1,h2,h3,h4,Int.natCast_inj]
theorem rsame13 (va vb:Value) (a b:Ms) (w:World) (ha:Msgs w va a) (hb:Msgs w vb b):Calls Tryz.prog 11 #[va,vb] w (Tells (.bool (sameM a b)) w):=by
 obtain ⟨U,N,rfl,hp,-,hu,hn⟩:=ha
 obtain ⟨U2,N2,rfl,hp2,-,hu2,hn2⟩:=hb
 obtain ⟨k,o,u,n⟩:=a
 obtain ⟨k2,o2,u2,n2⟩:=b
 dsimp only at hp hu hn hp2 hu2 hn2 ⊢
 have b1:=box_msg w (mcells k (ocells o) U N).toArray
 have b2:=box_msg (w.alloc (.cells (mcells k (ocells o) U N).toArray 36)) (mcells k2 (ocells o2) U2 N2).toArray
 have hs:(w.alloc (.cells (mcells k (ocells o) U N).toArray 36)).heap.size=w.heap.size+1:=by simp
 have hb:=b1.trans (b2.mono b1.size)
 have BX:=hid ((BoxM.new w 36 k hp).keep b2)
 have BY:=BoxM.new (w.alloc (.cells (mcells k (ocells o) U N).toArray 36)) 36 k2 hp2
 rw [hs] at BY
 have BY:=hid BY
 have HB:=hid hb
 have CU:=hid (fun v x W (h:Upds W v u) (h2:Upds W x u2)=>Upd.rsame_any v x u u2 W h h2)
 have CT:=hid (fun v x W (h:Note W v n) (h2:Note W x n2)=>told_any v x n n2 W h h2)
 have HU:=hid (And.intro (hu.keep hb) (hu2.keep hb))
 have HN:=hid (And.intro (hn.keep hb) (hn2.keep hb))
 have HG:=hid (show sameM ⟨k,o,u,n⟩ ⟨k2,o2,u2,n2⟩=(decide (k=k2) && decide (o=o2) && sameU u u2 && sameN n n2) from rfl)
 generalize sameM ⟨k,o,u,n⟩ ⟨k2,o2,u2,n2⟩=g at HG ⊢
 have eq1:=fun W=>eql_open W o o2
 clear hu hn hu2 hn2 hb b1 b2 hs hp hp2
 generalize sameU u u2=g1 at CU HG
 generalize sameN n n2=g2 at CT HG
 generalize decide (o=o2)=g3 at eq1 HG
 go_enter Tryz.func11,Tryz.ntmps11
 go_upto_region 1 with fail
 generalize (w.alloc (.cells (mcells k (ocells o) U N).toArray 36)).alloc (.cells (mcells k2 (ocells o2) U2 N2).toArray 36)=w1 at BX BY HB HU HN ⊢
 have c0:=BX.out.c0
 have d0:=BY.out.c0
 by_cases hk:k=k2
 rotate_left
 focus
  have y1:(k == k2)=false:=by simp [hk]
  obtain rfl:g=false:=by rw [HG.out];simp [hk]
 rotate_left
 focus
  subst hk
  have y1:(k == k)=true:=by simp
  have hg:=HG.out
  rw [decide_eq_true rfl] at hg
  have T1:=hid True.intro
  cases g3
  focus
   obtain rfl:g=false:=by rw [hg];simp
  rotate_left
  focus
   have T3:=hid True.intro
   cases g1
   focus
    obtain rfl:g=false:=by rw [hg];simp
   rotate_left
   focus
    obtain rfl:g=g2:=by rw [hg];simp
    have T5:=hid True.intro
   rotate_left
  all_goals clear hg
 all_goals
  clear HG
  go_wp2_with (first
   | (have tok:=T1.out;refine load_o BX.out _ rfl rfl (by kernel_rfl) ?_;have T2:=hid tok;clear T1 tok)
   | (have tok:=T2.out;refine load_o BY.out _ rfl rfl (by kernel_rfl) ?_;clear T2 tok)
   | (have tok:=T3.out;refine load_u BX.out _ rfl rfl (by kernel_rfl) ?_;have T4:=hid tok;clear T3 tok)
   | (have tok:=T4.out;refine load_u BY.out _ rfl rfl (by kernel_rfl) ?_;clear T4 tok)
   | (have tok:=T5.out;refine load_n BX.out _ rfl rfl (by kernel_rfl) ?_;have T6:=hid tok;clear T5 tok)
   | (have tok:=T6.out;refine load_n BY.out _ rfl rfl (by kernel_rfl) ?_;clear T6 tok)
   | (go_at_call 33;refine (CU.out _ _ _ HU.out.1 HU.out.2).mono ?_;rintro e x ⟨rfl,hb⟩;replace HB:=hid (HB.out.trans (hb.mono HB.out.size));replace BX:=hid (BX.out.keep hb);replace BY:=hid (BY.out.keep hb);replace HN:=hid (And.intro (HN.out.1.keep hb) (HN.out.2.keep hb));clear hb)
   | (go_at_call 22;refine (CT.out _ _ _ HN.out.1 HN.out.2).mono ?_;rintro e x ⟨rfl,hb⟩;replace HB:=hid (HB.out.trans (hb.mono HB.out.size));replace BX:=hid (BX.out.keep hb);replace BY:=hid (BY.out.keep hb);replace HN:=hid (And.intro (HN.out.1.keep hb) (HN.out.2.keep hb));clear hb))
  go_ret
  exact ⟨rfl,HB.out⟩
end Msg
namespace Upd
open Oct Att PR
theorem rest_len (l:List Nat) (b:Bool) (k:Int):(rest l b k).length≤l.length:=by
 unfold rest
 split
 ·simp
 ·rw [List.length_drop];omega
theorem got_len2 (l:List Nat) (b:Bool) (k:Int):(got l b k).length≤l.length:=by
 unfold got
 split
 ·simp
 ·rw [List.length_take];omega
theorem fit_num {l:List Nat} {n:Nat} (h:n≤l.length):(Rd.mk l false).num (n:Nat)=val (l.take n):=by
 unfold Rd.num
 rw [(fit_go h).2]
theorem rd_upd (b:List Nat) (x1 x2 x3 x4:Rd) (n1 n2:Nat) (G Q:List Nat) (e1:x1=(Rd.mk b false).go 2) (en1:n1=(Rd.mk b false).num 2) (e2:x2=x1.go n1) (eG:G=got x1.l x1.b n1) (e3:x3=x2.go 2) (en2:n2=x2.num 2) (e4:x4=x3.go n2) (eQ:Q=got x3.l x3.b n2) :
  (x4.b=true→decU b=.inl form1)∧(x4.b=false→(dec val G=none→decU b=.inl form1)∧∀ g,dec val G=some g→decU b=decU2 g (decodeA Q) x4.l):=by
 by_cases h1:b.length<2
 ·have hx1:x1.b=true:=by rw [e1];exact (go_short (by omega)).1
  have hx4:x4.b=true:=by rw [e4];exact go_bad (by rw [e3];exact go_bad (by rw [e2];exact go_bad hx1 _) _) _
  exact ⟨fun _=>if_pos h1,fun h=>by rw [hx4] at h;cases h⟩
 have f1:=fit_go (l:=b) (n:=2) (by omega)
 have g1:=fit_num (l:=b) (n:=2) (by omega)
 replace e1:x1=⟨b.drop 2,false⟩:=e1.trans f1.1
 replace en1:n1=val (b.take 2):=en1.trans g1
 subst e1
 have hD:decU b=if b.length<2+n1 then .inl form1 else decU1 (dec val ((b.drop 2).take n1)) (b.drop (2+n1)):=by rw [en1];exact if_neg h1
 clear en1 f1 g1
 by_cases h2:b.length<2+n1
 ·have hx2:x2.b=true:=by rw [e2];exact (go_short (by rw [List.length_drop];omega)).1
  have hx4:x4.b=true:=by rw [e4];exact go_bad (by rw [e3];exact go_bad hx2 _) _
  exact ⟨fun _=>by rw [hD,if_pos h2],fun h=>by rw [hx4] at h;cases h⟩
 rw [if_neg h2] at hD
 have f2:=fit_go (l:=b.drop 2) (n:=n1) (by rw [List.length_drop];omega)
 replace e2:x2=⟨b.drop (2+n1),false⟩:=e2.trans (f2.1.trans (by rw [List.drop_drop]))
 replace eG:G=(b.drop 2).take n1:=eG.trans f2.2
 subst e2
 rw [← eG] at hD
 clear f2 eG
 obtain ⟨C,hC⟩:∃ C,C=b.drop (2+n1):=⟨_,rfl⟩
 rw [← hC] at e3 en2 hD
 cases hg:dec val G with
 | none =>
  have hd:decU b=.inl form1:=by rw [hD,hg];rfl
  exact ⟨fun _=>hd,fun _=>⟨fun _=>hd,fun g h=>by cases h⟩⟩
 | some g =>
 rw [hg] at hD
 by_cases h3:C.length<2
 ·have hx3:x3.b=true:=by rw [e3];exact (go_short (by omega)).1
  have hx4:x4.b=true:=by rw [e4];exact go_bad hx3 _
  exact ⟨fun _=>by rw [hD];exact if_pos h3,fun h=>by rw [hx4] at h;cases h⟩
 have f3:=fit_go (l:=C) (n:=2) (by omega)
 have g3:=fit_num (l:=C) (n:=2) (by omega)
 replace e3:x3=⟨C.drop 2,false⟩:=e3.trans f3.1
 replace en2:n2=val (C.take 2):=en2.trans g3
 subst e3
 have hD2:decU b=if C.length<2+n2 then .inl form1 else decU2 g (decodeA ((C.drop 2).take n2)) (C.drop (2+n2)):=by rw [hD,en2];exact if_neg h3
 clear f3 g3 en2 hD
 by_cases h4:C.length<2+n2
 ·have hx4:x4.b=true:=by rw [e4];exact (go_short (by rw [List.length_drop];omega)).1
  exact ⟨fun _=>by rw [hD2,if_pos h4],fun h=>by rw [hx4] at h;cases h⟩
 rw [if_neg h4] at hD2
 have f4:=fit_go (l:=C.drop 2) (n:=n2) (by rw [List.length_drop];omega)
 replace e4:x4=⟨C.drop (2+n2),false⟩:=e4.trans (f4.1.trans (by rw [List.drop_drop]))
 replace eQ:Q=(C.drop 2).take n2:=eQ.trans f4.2
 subst e4
 rw [← eQ] at hD2
 refine ⟨fun h=>(by cases h),fun _=>⟨fun h=>(by cases h),fun g' h=>?_⟩⟩
 injection h with h
 rw [← h]
 exact hD2
end Upd
namespace Upd
open Go.RowKit Mem Segm Oct Att Seg PR
end Upd
namespace Upd
open Oct Att PR
end Upd
namespace Upd
open Go.RowKit Mem Segm Oct Att Seg PR
end Upd
namespace Upd
open Go.RowKit Mem Segm Oct Att Seg PR
end Upd
namespace Upd
open Go.RowKit Mem Segm Oct Att Seg PR
end Upd
end Go.Proofs.YtjfmompgkkdliaaGreatDoor
