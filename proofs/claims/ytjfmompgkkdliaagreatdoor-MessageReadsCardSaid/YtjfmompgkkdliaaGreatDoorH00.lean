/- Part of the proof. -/
import Derived.Test.YtjfmompgkkdliaaGreatDoorProg
import Derived.Below
import Derived.WalkKit
import Derived.Laws.OwnMore
import Derived.Deep.AppendLies
import Derived.Deep.Draws
import Derived.OwnWalk
import Derived.Sort.Grow
import Derived.Lib.Hide
import Derived.ScopeJumps
import Derived.WalkMore
import Derived.Laws.BitsAllLaws
open Go.Lib (hid)
set_option maxRecDepth 100000
set_option maxHeartbeats 40000000
namespace Go.Proofs.YtjfmompgkkdliaaGreatDoor
namespace Mem
open Go.RowKit
def Row (w:World) (size:Nat) (v:Value) (n:Nat) (cs:List Value):Prop :=
 cs.length=n*size∧∃ A c,v=.slice A n c∧n≤c∧c≤maxLen ∧
  (0<n→∃ b off,A=some ⟨b,off,none⟩∧b<w.heap.size∧∀ i x,cs[i]?=some x→w.cell? ⟨b,off+i,none⟩=some x)
section
variable {w w':World} {size n:Nat} {v:Value} {cs:List Value}
theorem Row.keep (h:Row w size v n cs) (hb:Below w.heap.size w w'):Row w' size v n cs:=by
 obtain ⟨hl,A,c,rfl,hn,hc,hr⟩:=h
 refine ⟨hl,A,c,rfl,hn,hc,fun h0=>?_⟩
 obtain ⟨b,off,hA,hlt,hcell⟩:=hr h0
 exact ⟨b,off,hA,Nat.lt_of_lt_of_le hlt hb.size,fun i x hx=>(hb.cell (p:=⟨b,off+i,none⟩) hlt).trans (hcell i x hx)⟩
theorem Row.nil (w:World) (size:Nat):Row w size (.slice none 0 0) 0 [] :=
 ⟨by simp,none,0,rfl,Nat.le_refl _,Nat.zero_le _,fun h=>absurd h (Nat.lt_irrefl _)⟩
theorem Row.of_own {base:Nat} {e:TypeId} (h:w.ownsRow base e size v n cs):Row w size v n cs:=by
 obtain ⟨hl,h⟩:=h
 rcases h with ⟨rfl,rfl⟩ | ⟨g,cap,cur,rfl,_,hg,hn,hm,hs,ht⟩
 ·exact ⟨hl,none,0,rfl,Nat.le_refl _,Nat.zero_le _,fun h=>absurd h (Nat.lt_irrefl _)⟩
 ·have hlt:g<w.heap.size:=by
   rcases Nat.lt_or_ge g w.heap.size with h | h
   ·exact h
   ·rw [Array.getElem?_eq_none h] at hg;cases hg
  refine ⟨hl,some ⟨g,0,none⟩,cap,rfl,hn,hm,fun _=>⟨g,0,rfl,hlt,fun i x hx=>?_⟩⟩
  rw [cell_of_row w g (0+i) cur e (0,0) hg,Nat.zero_add]
  rw [← ht,List.getElem?_take] at hx
  split at hx
  ·simpa using hx
  ·cases hx
theorem Row.prefix_ {A:Option Addr} {c k:Nat} (h:Row w size (.slice A n c) n cs) (hk:k≤n):Row w size (.slice A k c) k (cs.take (k*size)):=by
 obtain ⟨hl,A',c',e,hn,hc,hr⟩:=h
 injection e with e1 e2 e3
 subst e1 e3
 have hm:k*size≤n*size:=Nat.mul_le_mul_right _ hk
 refine ⟨by rw [List.length_take,hl];omega,A,c,rfl,by omega,hc,fun h0=>?_⟩
 obtain ⟨b,off,hA,hlt,hcell⟩:=hr (by omega)
 refine ⟨b,off,hA,hlt,fun i x hx=>hcell i x ?_⟩
 rw [List.getElem?_take] at hx
 split at hx
 ·exact hx
 ·cases hx
theorem Row.cut {A:Option Addr} {c k:Nat} (h:Row w size (.slice A n c) n cs) (hk:k≤n) :
  Row w size (.slice (if c=k then A else A.map (·.add (k*size))) (n - k) (c - k)) (n - k) (cs.drop (k*size)):=by
 obtain ⟨hl,A',c',e,hn,hc,hr⟩:=h
 injection e with e1 e2 e3
 subst e1 e3
 refine ⟨by rw [List.length_drop,hl,Nat.sub_mul],_,_,rfl,by omega,by omega,fun h0=>?_⟩
 obtain ⟨b,off,rfl,hlt,hcell⟩:=hr (by omega)
 rw [if_neg (by omega)]
 refine ⟨b,off+k*size,?_,hlt,fun i x hx=>?_⟩
 ·simp only [Option.map]
  unfold Addr.add
  split
  ·rename_i h0;rw [h0];rfl
  ·rfl
 ·rw [Nat.add_assoc]
  exact hcell _ x (by rw [← hx,List.getElem?_drop])
theorem Row.cut1 {A:Option Addr} {c k:Nat} (h:Row w 1 (.slice A n c) n cs) (hk:k≤n) :
  Row w 1 (.slice (if c=k then A else A.map (fun x=>x.add k)) (n - k) (c - k)) (n - k) (cs.drop k):=by
 have:=h.cut hk
 rwa [Nat.mul_one] at this
theorem Row.cut_at {b off c k:Nat} (h:Row w 1 (.slice (some ⟨b,off,none⟩) n c) n cs) (hk:k≤n) :
  Row w 1 (.slice (if c=k then some ⟨b,off,none⟩ else some ⟨b,off+k,none⟩) (n - k) (c - k)) (n - k) (cs.drop k):=by
 have:=h.cut hk
 rw [Nat.mul_one] at this
 have e:(if c=k then some (⟨b,off,none⟩:Addr) else (some (⟨b,off,none⟩:Addr)).map (·.add k))=if c=k then some ⟨b,off,none⟩ else some ⟨b,off+k,none⟩:=by
  split
  ·rfl
  ·simp only [Option.map]
   unfold Addr.add
   split
   ·rename_i h0;rw [h0];rfl
   ·rfl
 rwa [e] at this
end
def U32s (w:World) (v:Value) (l:List Nat):Prop:=Row w 1 v l.length (l.map fun n:Nat=>Value.int .u32 n)∧∀ n∈l,n<4294967296
section
variable {w w':World} {v:Value} {l:List Nat}
theorem U32s.keep (h:U32s w v l) (hb:Below w.heap.size w w'):U32s w' v l:=⟨h.1.keep hb,h.2⟩
theorem U32s.nil (w:World):U32s w (.slice none 0 0) []:=⟨Row.nil w 1,by simp⟩
theorem U32s.of_own {base:Nat} {e:TypeId} (h:w.ownsRow base e 1 v l.length (l.map fun n:Nat=>Value.int .u32 n)) (hl:∀ n∈l,n<4294967296):U32s w v l:=⟨Row.of_own h,hl⟩
theorem U32s.open_ (h:U32s w v l):∃ A c,v=.slice A l.length c∧l.length≤c∧c≤9223372036854775807∧(∀ n∈l,n<4294967296) ∧
  ∀ k,k<l.length→∃ b off x,A=some ⟨b,off,none⟩∧b<w.heap.size∧l[k]?=some x∧x<4294967296∧w.cell? ⟨b,off+k,none⟩=some (.int .u32 x):=by
 obtain ⟨⟨_,A,c,rfl,hn,hc,hr⟩,hl⟩:=h
 refine ⟨A,c,rfl,hn,hc,hl,fun k hk=>?_⟩
 obtain ⟨b,off,hA,hlt,hcell⟩:=hr (by omega)
 refine ⟨b,off,l[k],hA,hlt,List.getElem?_eq_getElem hk,hl _ (List.getElem_mem hk),hcell k _ ?_⟩
 rw [List.getElem?_map,List.getElem?_eq_getElem hk];rfl
end
theorem U32s.at_ {w:World} {l:List Nat} {A:Option Addr} {n c k:Nat} (h:U32s w (.slice A n c) l) (hk:k<l.length) :
  ∃ b off x,A=some ⟨b,off,none⟩∧b<w.heap.size∧l[k]?=some x∧x<4294967296∧w.cell? ⟨b,off+k,none⟩=some (.int .u32 x):=by
 obtain ⟨A',c',e,_,_,_,hat⟩:=h.open_
 injection e with e1
 subst e1
 exact hat k hk
structure IsElem (P:Program) (t e:TypeId) (size bytes:Nat) (i:TypeInfo) (z:Value):Prop where
 ht:P.underlying t=some (.slice e)
 hi:P.info? e=some i
 hz:i.zero=some z
 hsize:i.size=size
 hby:i.bytes=bytes
 hzs:z.cells.size=size
 pos:0<size
theorem IsElem.mk_ {P:Program} {t e:TypeId} {size bytes:Nat} {z:Value} (ht:P.underlying t=some (.slice e)) (h:(P.info? e).map (fun i=>(i.zero,i.size,i.bytes))=some (some z,size,bytes)) (hzs:z.cells.size=size) (pos:0<size) :
  ∃ i,IsElem P t e size bytes i z:=by
 obtain ⟨i,hi,h0,h1,h2⟩:=info_parts h
 exact ⟨i,ht,hi,h0,h1,h2,hzs,pos⟩
section
variable {P:Program} {w:World} {t e:TypeId} {size bytes:Nat} {i:TypeInfo} {z:Value}
theorem below_of_grown {w':World} {base:Nat} {v:Value} {n:Nat} {xs:List Value} (hown:w.ownsRow base e size v n xs) (hg:w.grownBy w' v.ownBlock) (hb:base≤w.heap.size):Below base w w' :=
 ⟨hg.os,hg.tape,hg.output,hg.size,fun k hk=>hg.block k (Nat.lt_of_lt_of_le hk hb) fun he=>by have:=(hown.lt k he.symm).1;omega⟩
theorem own_form {base:Nat} {v:Value} {n:Nat} {xs:List Value} (h:w.ownsRow base e size v n xs):∃ A c,v=.slice A n c:=by
 rcases h.2 with ⟨rfl,rfl⟩ | ⟨g,cap,cur,rfl,_⟩
 ·exact ⟨_,_,rfl⟩
 ·exact ⟨_,_,rfl⟩
theorem run_append_row (E:IsElem P t e size bytes i z) (base:Nat) (ty:TypeId) (v:Value) (n:Nat) (xs:List Value) (hown:w.ownsRow base e size v n xs) (x:Value) (m:Nat) (news:List Value)
  (hr:Row w size x m news) (h1:∀ u∈news,u.oneCell'=true) (h63:n+m≤maxLen) (hbytes:(n+m)*bytes≤140737488355328) (hbase:base≤w.heap.size) :
  ∃ A' c' w',(Builtin.append_ #[t,t] ty #[v,x]).run P w=.ok (.slice A' (n+m) c') w'∧w'.ownsRow base e size (.slice A' (n+m) c') (n+m) (xs ++ news)∧w.grownBy w' v.ownBlock∧((Value.slice A' (n+m) c').ownBlock=v.ownBlock∨(Value.slice A' (n+m) c').ownBlock=some w.heap.size):=by
 suffices h:∃ v' w',(Builtin.append_ #[t,t] ty #[v,x]).run P w=.ok v' w'∧w'.ownsRow base e size v' (n+m) (xs ++ news)∧w.grownBy w' v.ownBlock∧(v'.ownBlock=v.ownBlock∨v'.ownBlock=some w.heap.size) by
  obtain ⟨v',w',h1,h2,h3,h4⟩:=h
  obtain ⟨A',c',rfl⟩:=own_form h2
  exact ⟨A',c',w',h1,h2,h3,h4⟩
 obtain ⟨hl,A,c,rfl,hmc,hc,hcell⟩:=hr
 cases A with
 | none =>
  have h0:m=0:=by
   rcases Nat.eq_zero_or_pos m with h | h
   ·exact h
   ·obtain ⟨_,_,h,_⟩:=hcell h
    cases h
  subst h0
  have hn:news=[]:=List.eq_nil_of_length_eq_zero (by simpa using hl)
  subst hn
  refine ⟨v,w,?_,by simpa using hown,World.grownBy.refl w _,.inl rfl⟩
  rcases hown.2 with ⟨rfl,rfl⟩ | ⟨g,cap,cur,rfl,_,_,hnc,_⟩
  ·simp [Builtin.append_,run_underlying E.ht,sizeOf,typeInfo,E.hi,Builtin.lenOf,Builtin.firstCells]
  ·simp [Builtin.append_,run_underlying E.ht,sizeOf,typeInfo,E.hi,Builtin.lenOf,Builtin.firstCells,hnc,storeCells]
 | some ad =>
  have hnews:∀ j u,news[j]?=some u→w.cell? (ad.add j)=some u:=fun j u hu=>by
   rcases Nat.eq_zero_or_pos m with h | h
   ·subst h
    have hn:news=[]:=List.eq_nil_of_length_eq_zero (by simpa using hl)
    rw [hn] at hu
    simp at hu
   ·obtain ⟨b,off,ha,_,hc⟩:=hcell h
    injection ha with ha
    subst ha
    have:=hc j u hu
    unfold Addr.add
    split
    ·rename_i h0;rw [h0] at this;exact this
    ·exact this
  obtain ⟨v',w',hrun,h2,h3,_,h5⟩:=run_append_own_at (P:=P) w base t ty e i z size bytes E.ht E.hi E.hz E.hsize E.hby E.hzs E.pos v n xs hown ad m c news hl hnews h1 h63 hbytes hbase
  exact ⟨v',w',hrun,h2,h3,h5⟩
theorem wp_append_row {o:Oper} {a:Act} {K:Act→World→Prop} {Q:Exit→Act→World→Prop} (s y:Operand)
  (ho:o.op=.call { callee:=.builtin .append,args:=#[s,y],argTypes:=#[t,t] }) (E:IsElem P t e size bytes i z)
  (base:Nat) (v:Value) (n:Nat) (xs:List Value) (hs:a.eval s=v) (hown:w.ownsRow base e size v n xs) (x:Value) (m:Nat) (news:List Value) (hx:a.eval y=x)
  (hr:Row w size x m news) (h1:∀ u∈news,u.oneCell'=true) (h63:n+m≤maxLen) (hbytes:(n+m)*bytes≤140737488355328) (hbase:base≤w.heap.size)
  (N:Nat) (hN:n+m=N)
  (h:∀ A' c' w',w'.ownsRow base e size (.slice A' N c') N (xs ++ news)→w.grownBy w' v.ownBlock→((Value.slice A' N c').ownBlock=v.ownBlock∨(Value.slice A' N c').ownBlock=some w.heap.size)→Below base w w'→K (a.put o.dst (.slice A' N c')) w'):o.wp P a w K Q:=by
 obtain ⟨A',c',w',hrun,h2,h3,h4⟩:=run_append_row E base o.type v n xs hown x m news hr h1 h63 hbytes hbase
 subst hN
 unfold Oper.wp execOp
 simp only [ho,resolve,invoke,builtin,Sem.run_bind,Sem.run_pure,Result.andThen_ok,List.map_toArray,List.map_cons,List.map_nil,hs,hx,hrun]
 exact h A' c' w' h2 h3 h4 (below_of_grown hown h3 hbase)
theorem wpList_append_row {ops:Array Oper} {rest:List Oper} {o:Oper} {a:Act} {Q:Exit→Act→World→Prop} (hgd:o.guard=none) (s y:Operand)
  (ho:o.op=.call { callee:=.builtin .append,args:=#[s,y],argTypes:=#[t,t] }) (E:IsElem P t e size bytes i z)
  (base:Nat) (v:Value) (n:Nat) (xs:List Value) (hs:a.eval s=v) (hown:w.ownsRow base e size v n xs) (x:Value) (m:Nat) (news:List Value) (hx:a.eval y=x)
  (hr:Row w size x m news) (h1:∀ u∈news,u.oneCell'=true) (h63:n+m≤maxLen) (hbytes:(n+m)*bytes≤140737488355328) (hbase:base≤w.heap.size)
  (N:Nat) (hN:n+m=N)
  (h:∀ A' c' w',w'.ownsRow base e size (.slice A' N c') N (xs ++ news)→w.grownBy w' v.ownBlock→((Value.slice A' N c').ownBlock=v.ownBlock∨(Value.slice A' N c').ownBlock=some w.heap.size)→Below base w w'→wpList P ops Q rest (a.put o.dst (.slice A' N c')) w'):wpList P ops Q (o :: rest) a w :=
 wpList_plain hgd fun _ hK=>wp_append_row s y ho E base v n xs hs hown x m news hx hr h1 h63 hbytes hbase N hN fun A' c' w' h2 h3 h4 h5=>hK _ _ (h A' c' w' h2 h3 h4 h5)
theorem step_append_row {ops:Array Oper} {o:Oper} {a:Act} {K:Act→World→Prop} {Q:Exit→Act→World→Prop} {C:Prop} (hgd:o.guard=none) (s y:Operand)
  (ho:o.op=.call { callee:=.builtin .append,args:=#[s,y],argTypes:=#[t,t] }) (E:IsElem P t e size bytes i z)
  (base:Nat) (v:Value) (n:Nat) (xs:List Value) (hs:a.eval s=v) (hown:w.ownsRow base e size v n xs) (x:Value) (m:Nat) (news:List Value) (hx:a.eval y=x)
  (hr:Row w size x m news) (h1:∀ u∈news,u.oneCell'=true) (h63:n+m≤maxLen) (hbytes:(n+m)*bytes≤140737488355328) (hbase:base≤w.heap.size)
  (N:Nat) (hN:n+m=N)
  (h:∀ A' c' w',w'.ownsRow base e size (.slice A' N c') N (xs ++ news)→w.grownBy w' v.ownBlock→((Value.slice A' N c').ownBlock=v.ownBlock∨(Value.slice A' N c').ownBlock=some w.heap.size)→Below base w w'→K (a.put o.dst (.slice A' N c')) w') :
  if Region.wanted o (yielded ops a.tmps)=true then Oper.wp P o a w K Q else C:=by
 rw [if_pos (by simp [Region.wanted,hgd])]
 exact wp_append_row s y ho E base v n xs hs hown x m news hx hr h1 h63 hbytes hbase N hN h
end
theorem Row.one (w:World) (x:Value) (t:TypeId):Row (w.alloc (.cells #[x] t)) 1 (.slice (some ⟨w.heap.size,0,none⟩) 1 1) 1 [x] :=
 ⟨rfl,_,1,rfl,Nat.le_refl _,by decide,fun _=>⟨w.heap.size,0,rfl,by simp,fun j u hj=>by
  match j,hj with
  | 0,hj =>
   simp at hj
   subst hj
   simp⟩⟩
theorem U32s.one (w:World) (n:Nat) (t:TypeId) (h:n<4294967296):U32s (w.alloc (.cells #[.int .u32 n] t)) (.slice (some ⟨w.heap.size,0,none⟩) 1 1) [n]:=⟨Row.one w _ t,by simpa using h⟩
theorem ones_u32 (l:List Nat):∀ u∈l.map (fun n:Nat=>Value.int .u32 n),u.oneCell'=true:=fun u hu=>by
 obtain ⟨n,_,rfl⟩:=List.mem_map.1 hu
 rfl
theorem one_u32 (x:Int):∀ u∈[Value.int .u32 x],u.oneCell'=true:=fun u hu=>by
 obtain rfl:=List.mem_singleton.1 hu
 rfl
theorem heap_dr (w:World):w.drew.heap=w.heap:=rfl
theorem heap_al (w:World) (o:Obj):(w.alloc o).heap=w.heap.push o:=rfl
theorem own_blk {W:World} {base B:Nat} {t:TypeId} (hB:base≤B) (h:W.heap[B]?=some (.cells #[] t (0,0))):W.ownsRow base t 1 (.slice (some ⟨B,0,none⟩) 0 0) 0 [] :=
 ⟨rfl,.inr ⟨B,0,#[],rfl,hB,h,Nat.le_refl _,Nat.zero_le _,rfl,rfl⟩⟩
theorem one_blk {W:World} {B:Nat} {t:TypeId} {x:Value} (h:W.heap[B]?=some (.cells #[x] t (0,0))):Row W 1 (.slice (some ⟨B,0,none⟩) 1 1) 1 [x] :=
 Row.of_own (base:=0) (e:=t) ⟨rfl,.inr ⟨B,1,#[x],rfl,Nat.zero_le _,h,Nat.le_refl _,by decide,rfl,rfl⟩⟩
theorem own_base {w:World} {base base':Nat} {e:TypeId} {size:Nat} {v:Value} {n:Nat} {xs:List Value} (h:w.ownsRow base' e size v n xs) (hb:base≤base'):w.ownsRow base e size v n xs:=by
 obtain ⟨h1,h2⟩:=h
 refine ⟨h1,?_⟩
 rcases h2 with h2 | ⟨g,cap,cur,hv,hg,r⟩
 ·exact .inl h2
 ·exact .inr ⟨g,cap,cur,hv,Nat.le_trans hb hg,r⟩
theorem own_keep {w w':World} {base:Nat} {e:TypeId} {size:Nat} {v:Value} {n:Nat} {xs:List Value} (h:w.ownsRow base e size v n xs) (hb:Below w.heap.size w w'):w'.ownsRow base e size v n xs:=by
 obtain ⟨h1,h2⟩:=h
 refine ⟨h1,?_⟩
 rcases h2 with h2 | ⟨g,cap,cur,hv,hg,hh,r⟩
 ·exact .inl h2
 ·refine .inr ⟨g,cap,cur,hv,hg,?_,r⟩
  rw [hb.block g ?_]
  ·exact hh
  ·rcases Nat.lt_or_ge g w.heap.size with h | h
   ·exact h
   ·rw [Array.getElem?_eq_none h] at hh;cases hh
def Gives32 (t:TypeId) (l:List Nat) (w:World) (e:Ending) (w':World):Prop :=
 ∃ v,e=.returned v∧w'.ownsRow w.heap.size t 1 v l.length (l.map fun n:Nat=>Value.int .u32 n)∧Below w.heap.size w w'
def Tells32 (l:List Nat) (w:World) (e:Ending) (w':World):Prop:=∃ v,e=.returned v∧U32s w' v l∧Below w.heap.size w w'
def Tells (v:Value) (w:World) (e:Ending) (w':World):Prop:=e=.returned v∧Below w.heap.size w w'
theorem ret_bool {a b:Bool} (h:a=b):Ending.returned (.bool a)=.returned (.bool b):=by rw [h]
theorem Below.tr {w a b:World} (h:Below w.heap.size w a) (k:Below a.heap.size a b):Below w.heap.size w b:=Go.RowKit.Below.trans h (k.mono h.size)
theorem below_drewN (w:World) (n:Nat):Below w.heap.size w (w.drewN n):=⟨rfl,rfl,rfl,Nat.le_refl _,fun _ _=>rfl⟩
end Mem
namespace Ahead
theorem jump_ret {l:Nat} {J:Act→World→Prop} {Q:Exit→Act→World→Prop} {a:Act} {w:World}:Exit.jump l J Q .ret a w=Q .ret a w:=rfl
theorem wp_scope_ahead {P:Program} {c next:Code} {Q:Exit→Act→World→Prop} {a:Act} {w:World} (l:Nat) (hf:findLabel c l=some next)
  (h:c.wp P (Exit.jump l (fun a w=>next.wp P (Exit.noGoto Q) a w) Q) a w):(Code.scope c).wp P Q a w :=
 wp_scope_jumps l _ (fun _ _=>0) hf h fun _ _ hJ=>Code.wp_mono (fun e _ _ hq=>by
  cases e with
  | goto l'=>exact hq.elim
  | normal=>exact hq
  | exit id=>exact hq
  | ret=>exact hq
  | panic ch=>exact hq
  | outgrown=>exact hq) hJ
end Ahead
namespace Rise
def rising (l:List Nat):Prop:=l.Pairwise (·<·)
instance decRising (l:List Nat):Decidable (rising l):=by unfold rising;infer_instance
theorem rising_nil:rising []:=List.Pairwise.nil
theorem rising_cons {x:Nat} {l:List Nat}:rising (x :: l) ↔ (∀ y∈l,x<y)∧rising l:=List.pairwise_cons
theorem rising_ext:∀ {a b:List Nat},rising a→rising b→(∀ x,x∈a ↔ x∈b)→a=b
 | [],[],_,_,_=>rfl
 | [],y :: b,_,_,h=>absurd ((h y).2 (List.mem_cons_self ..)) (by simp)
 | x :: a,[],_,_,h=>absurd ((h x).1 (List.mem_cons_self ..)) (by simp)
 | x :: a,y :: b,ha,hb,h=>by
  obtain ⟨ha1,ha2⟩:=rising_cons.1 ha
  obtain ⟨hb1,hb2⟩:=rising_cons.1 hb
  have e:x=y:=by
   rcases List.mem_cons.1 ((h x).1 (List.mem_cons_self ..)) with e | m
   ·exact e
   ·rcases List.mem_cons.1 ((h y).2 (List.mem_cons_self ..)) with e | m2
    ·exact e.symm
    ·have:=hb1 x m;have:=ha1 y m2;omega
  subst e
  congr 1
  refine rising_ext ha2 hb2 fun z=>?_
  constructor
  ·intro hz
   rcases List.mem_cons.1 ((h z).1 (List.mem_cons_of_mem _ hz)) with e | m
   ·have:=ha1 z hz;omega
   ·exact m
  ·intro hz
   rcases List.mem_cons.1 ((h z).2 (List.mem_cons_of_mem _ hz)) with e | m
   ·have:=hb1 z hz;omega
   ·exact m
def put (l:List Nat) (n:Nat):List Nat:=if n∈l then l else l.takeWhile (fun x=>decide (x<n)) ++ n :: l.dropWhile (fun x=>decide (x<n))
theorem mem_put (l:List Nat) (n x:Nat):x∈put l n ↔ x=n∨x∈l:=by
 unfold put
 split
 ·rename_i h
  exact ⟨.inr,fun h2=>h2.elim (fun e=>e ▸ h) id⟩
 ·have e:=List.takeWhile_append_dropWhile (p:=fun x=>decide (x<n)) (l:=l)
  have hm:x∈l ↔ x∈l.takeWhile (fun x=>decide (x<n))∨x∈l.dropWhile (fun x=>decide (x<n)):=by rw [← List.mem_append,e]
  rw [List.mem_append,List.mem_cons,hm]
  constructor
  ·rintro (h | h | h)
   ·exact .inr (.inl h)
   ·exact .inl h
   ·exact .inr (.inr h)
  ·rintro (h | h | h)
   ·exact .inr (.inl h)
   ·exact .inl h
   ·exact .inr (.inr h)
theorem rising_put:∀ {l:List Nat} (n:Nat),rising l→rising (put l n)
 | [],n,_=>by simp [put,rising]
 | x :: l,n,h=>by
  obtain ⟨h1,h2⟩:=rising_cons.1 h
  by_cases hm:n∈x :: l
  ·unfold put;rw [if_pos hm];exact h
  ·have hml:n ∉ l:=fun m=>hm (List.mem_cons_of_mem _ m)
   have hx:x≠n:=fun e=>hm (e ▸ List.mem_cons_self ..)
   unfold put
   rw [if_neg hm]
   by_cases hlt:x<n
   ·have ih:=rising_put n h2
    unfold put at ih
    rw [if_neg hml] at ih
    simp only [List.takeWhile,List.dropWhile,hlt,decide_true,List.cons_append]
    refine rising_cons.2 ⟨fun y hy=>?_,ih⟩
    have hy2:y∈put l n:=by unfold put;rw [if_neg hml];exact hy
    rcases (mem_put l n y).1 hy2 with e | m
    ·omega
    ·exact h1 y m
   ·simp only [List.takeWhile,List.dropWhile,hlt,decide_false,List.nil_append]
    refine rising_cons.2 ⟨fun y hy=>?_,h⟩
    rcases List.mem_cons.1 hy with e | m
    ·omega
    ·have:=h1 y m;omega
def setOf (l:List Nat):List Nat:=l.foldl put []
theorem setOf_snoc (l:List Nat) (n:Nat):setOf (l ++ [n])=put (setOf l) n:=by unfold setOf;rw [List.foldl_append];rfl
theorem setOf_both (l:List Nat):rising (setOf l)∧∀ x,x∈setOf l ↔ x∈l:=by
 induction hn:l.length generalizing l with
 | zero=>rw [List.length_eq_zero_iff.1 hn];exact ⟨rising_nil,fun x=>Iff.rfl⟩
 | succ n ih =>
  rcases List.eq_nil_or_concat l with rfl | ⟨m,c,rfl⟩
  ·simp at hn
  ·rw [List.concat_eq_append] at *
   obtain ⟨h1,h2⟩:=ih m (by simpa using hn)
   rw [setOf_snoc]
   refine ⟨rising_put c h1,fun x=>?_⟩
   rw [mem_put,h2,List.mem_append,List.mem_singleton]
   exact ⟨fun h=>h.elim .inr .inl,fun h=>h.elim .inr .inl⟩
theorem rising_setOf (l:List Nat):rising (setOf l):=(setOf_both l).1
theorem mem_setOf (l:List Nat) (x:Nat):x∈setOf l ↔ x∈l:=(setOf_both l).2 x
theorem setOf_iff (l:List Nat):setOf l=l ↔ rising l :=
 ⟨fun h=>h ▸ rising_setOf l,fun h=>rising_ext (rising_setOf l) h (mem_setOf l)⟩
end Rise
namespace Segm
open Rise
abbrev Piece:=Int × List Nat
def putS (p:List Piece) (n:Nat):List Piece:=match p.getLast? with
 | some s=>if s.1=2∧s.2.length<255 then p.dropLast ++ [(2,s.2 ++ [n])] else p ++ [(2,[n])]
 | none=>[(2,[n])]
theorem putS_nil (n:Nat):putS [] n=[(2,[n])]:=rfl
theorem putS_room {f:List Piece} {s:Piece} (n:Nat) (h1:s.1=2) (h2:s.2.length<255):putS (f ++ [s]) n=f ++ [(2,s.2 ++ [n])]:=by
 unfold putS
 simp [h1,h2]
theorem putS_full {f:List Piece} {s:Piece} (n:Nat) (h:¬ (s.1=2∧s.2.length<255)):putS (f ++ [s]) n=f ++ [s] ++ [(2,[n])]:=by
 unfold putS
 simp only [List.getLast?_append,List.getLast?_singleton,Option.some_or]
 rw [if_neg h]
theorem putS_len (p:List Piece) (n:Nat):(putS p n).length≤p.length+1:=by
 rcases List.eq_nil_or_concat p with rfl | ⟨f,s,rfl⟩
 ·simp [putS]
 ·rw [List.concat_eq_append]
  by_cases h:s.1=2∧s.2.length<255
  ·rw [putS_room n h.1 h.2];simp
  ·rw [putS_full n h];simp
def putsS (p:List Piece) (l:List Nat):List Piece:=l.foldl putS p
theorem putsS_nil (p:List Piece):putsS p []=p:=rfl
theorem putsS_snoc (p:List Piece) (l:List Nat) (n:Nat):putsS p (l ++ [n])=putS (putsS p l) n:=by unfold putsS;rw [List.foldl_append];rfl
theorem putsS_len (p:List Piece) (l:List Nat):(putsS p l).length≤p.length+l.length:=by
 induction hn:l.length generalizing l with
 | zero=>rw [List.length_eq_zero_iff.1 hn,putsS_nil];simp
 | succ n ih =>
  rcases List.eq_nil_or_concat l with rfl | ⟨m,c,rfl⟩
  ·simp at hn
  ·rw [List.concat_eq_append] at *
   rw [putsS_snoc]
   have h1:=putS_len (putsS p m) c
   have h2:=ih m (by simpa using hn)
   have h3:m.length=n:=by simpa using hn
   omega
def normOne (p:List Piece) (s:Piece):List Piece :=
 if s.1=2 then putsS p s.2 else if s.1=1∧s.2≠[] then p ++ [(1,setOf s.2)] else p
def normS (p:List Piece):List Piece:=p.foldl normOne []
theorem normS_nil:normS []=[]:=rfl
theorem normS_snoc (p:List Piece) (s:Piece):normS (p ++ [s])=normOne (normS p) s:=by unfold normS;rw [List.foldl_append];rfl
def bulk (p:List Piece):Nat:=(p.map fun s=>s.2.length+1).sum
theorem bulk_append (p q:List Piece):bulk (p ++ q)=bulk p+bulk q:=by simp [bulk]
theorem bulk_take {p:List Piece} {k:Nat} {s:Piece} (h:p[k]?=some s):bulk (p.take (k+1))=bulk (p.take k)+(s.2.length+1):=by
 rw [List.take_add_one,h,Option.toList_some,bulk_append];simp [bulk]
theorem bulk_take_le (p:List Piece) (k:Nat):bulk (p.take k)≤bulk p:=by
 have h:=bulk_append (p.take k) (p.drop k)
 rw [List.take_append_drop] at h
 omega
theorem normOne_len (p:List Piece) (s:Piece):(normOne p s).length≤p.length+(s.2.length+1):=by
 unfold normOne
 split
 ·have:=putsS_len p s.2;omega
 ·split
  ·simp
  ·omega
theorem normS_len (p:List Piece):(normS p).length≤bulk p:=by
 induction hn:p.length generalizing p with
 | zero=>rw [List.length_eq_zero_iff.1 hn];simp [normS]
 | succ n ih =>
  rcases List.eq_nil_or_concat p with rfl | ⟨m,c,rfl⟩
  ·simp at hn
  ·rw [List.concat_eq_append] at *
   rw [normS_snoc,bulk_append]
   have h1:=normOne_len (normS m) c
   have h2:=ih m (by simpa using hn)
   simp [bulk] at h2 ⊢
   omega
theorem take_one {p:List Piece} {k:Nat} {s:Piece} (h:p[k]?=some s):p.take (k+1)=p.take k ++ [s]:=by rw [List.take_add_one,h];rfl
def FitS (m:Nat) (p:List Piece):Prop:=∀ s∈p,s.2.length≤m
theorem putS_fit {m:Nat} {p:List Piece} (n:Nat) (hm:255≤m) (h:FitS m p):FitS m (putS p n):=by
 rcases List.eq_nil_or_concat p with rfl | ⟨f,s,rfl⟩
 ·intro s hs
  rw [putS_nil] at hs
  rw [List.mem_singleton.1 hs];simp;omega
 ·rw [List.concat_eq_append] at *
  have hf:∀ s'∈f,s'.2.length≤m:=fun s' hs=>h s' (by simp [hs])
  by_cases hr:s.1=2∧s.2.length<255
  ·rw [putS_room n hr.1 hr.2]
   intro s' hs
   rcases List.mem_append.1 hs with hs | hs
   ·exact hf s' hs
   ·rw [List.mem_singleton.1 hs];simp;omega
  ·rw [putS_full n hr]
   intro s' hs
   rcases List.mem_append.1 hs with hs | hs
   ·exact h s' hs
   ·rw [List.mem_singleton.1 hs];simp;omega
end Segm
namespace Mem
open Go.RowKit Segm
def segCells:List Piece→List Value→List Value
 | s :: p,x :: q=>.int .i64 s.1 :: x :: segCells p q
 | _,_=>[]
theorem segCells_append:∀ (p:List Piece) (q:List Value) (p2:List Piece) (q2:List Value),q.length=p.length→segCells (p ++ p2) (q ++ q2)=segCells p q ++ segCells p2 q2
 | [],q,p2,q2,h=>by
  cases q with
  | nil=>rfl
  | cons a b=>simp at h
 | s :: p,[],p2,q2,h=>by simp at h
 | s :: p,x :: q,p2,q2,h=>by
  have:=segCells_append p q p2 q2 (by simpa using h)
  simp only [List.cons_append,segCells,this]
theorem segCells_take:∀ (k:Nat) (p:List Piece) (q:List Value),(segCells p q).take (k*2)=segCells (p.take k) (q.take k)
 | 0,p,q=>by simp [segCells]
 | k+1,[],q=>by simp [segCells]
 | k+1,s :: p,[]=>by simp [segCells]
 | k+1,s :: p,x :: q=>by
  have:=segCells_take k p q
  rw [show (k+1)*2=k*2+1+1 by omega]
  simp only [List.take_succ_cons,segCells,this]
theorem segCells_at:∀ (k:Nat) (p:List Piece) (q:List Value) (s:Piece) (x:Value),p[k]?=some s→q[k]?=some x→(segCells p q)[k*2]?=some (.int .i64 s.1)∧(segCells p q)[k*2+1]?=some x
 | 0,s' :: p,x' :: q,s,x,h1,h2=>by
  simp at h1 h2
  subst h1 h2
  exact ⟨rfl,rfl⟩
 | k+1,s' :: p,x' :: q,s,x,h1,h2=>by
  have:=segCells_at k p q s x (by simpa using h1) (by simpa using h2)
  rw [show (k+1)*2=k*2+1+1 by omega]
  simpa [segCells] using this
 | 0,[],_,s,x,h1,_=>by simp at h1
 | 0,_ :: _,[],s,x,_,h2=>by simp at h2
 | k+1,[],_,s,x,h1,_=>by simp at h1
 | k+1,_ :: _,[],s,x,_,h2=>by simp at h2
def Nums32 (w:World) (p:List Piece) (q:List Value):Prop:=q.length=p.length∧∀ (k:Nat) (s:Piece) (x:Value),p[k]?=some s→q[k]?=some x→U32s w x s.2
theorem Nums32.keep {w w':World} {p:List Piece} {q:List Value} (h:Nums32 w p q) (hb:Below w.heap.size w w'):Nums32 w' p q:=⟨h.1,fun k s x h1 h2=>(h.2 k s x h1 h2).keep hb⟩
theorem Nums32.nil (w:World):Nums32 w [] []:=⟨rfl,fun k s x h1 _=>by simp at h1⟩
theorem Nums32.append {w:World} {p p2:List Piece} {q q2:List Value} (h:Nums32 w p q) (h2:Nums32 w p2 q2):Nums32 w (p ++ p2) (q ++ q2):=by
 refine ⟨by simp [h.1,h2.1],fun k s x e1 e2=>?_⟩
 by_cases hk:k<p.length
 ·rw [List.getElem?_append_left hk] at e1
  rw [List.getElem?_append_left (by rw [h.1];exact hk)] at e2
  exact h.2 k s x e1 e2
 ·rw [List.getElem?_append_right (by omega)] at e1
  rw [List.getElem?_append_right (by rw [h.1];omega),h.1] at e2
  exact h2.2 _ s x e1 e2
theorem Nums32.one {w:World} {s:Piece} {x:Value} (h:U32s w x s.2):Nums32 w [s] [x] :=
 ⟨rfl,fun k s' x' h1 h2=>by
  match k,h1,h2 with
  | 0,h1,h2=>simp at h1 h2;subst h1 h2;exact h⟩
theorem Nums32.take {w:World} {p:List Piece} {q:List Value} (h:Nums32 w p q) (k:Nat):Nums32 w (p.take k) (q.take k):=by
 refine ⟨by simp [h.1],fun j s x e1 e2=>?_⟩
 rw [List.getElem?_take] at e1 e2
 split at e1
 ·rename_i hj
  rw [if_pos hj] at e2
  exact h.2 j s x e1 e2
 ·cases e1
def Segs (w:World) (v:Value) (p:List Piece):Prop:=∃ q,Row w 2 v p.length (segCells p q)∧Nums32 w p q
def Apart (v:Value) (q:List Value):Prop:=∀ x∈q,∀ b off m c,x=.slice (some ⟨b,off,none⟩) m c→0<m→v.ownBlock≠some b
def OwnSegs (t:TypeId) (base:Nat) (w:World) (v:Value) (p:List Piece):Prop:=∃ q,w.ownsRow base t 2 v p.length (segCells p q)∧Nums32 w p q∧Apart v q
section
variable {w w':World} {v:Value} {p:List Piece} {t:TypeId} {base:Nat}
theorem Segs.keep (h:Segs w v p) (hb:Below w.heap.size w w'):Segs w' v p:=let ⟨q,h1,h2⟩:=h;⟨q,h1.keep hb,h2.keep hb⟩
theorem OwnSegs.keep (h:OwnSegs t base w v p) (hb:Below w.heap.size w w'):OwnSegs t base w' v p:=let ⟨q,h1,h2,h3⟩:=h;⟨q,own_keep h1 hb,h2.keep hb,h3⟩
theorem OwnSegs.segs (h:OwnSegs t base w v p):Segs w v p:=let ⟨q,h1,h2,_⟩:=h;⟨q,Row.of_own h1,h2⟩
theorem OwnSegs.form (h:OwnSegs t base w v p):∃ A c,v=.slice A p.length c:=let ⟨_,h1,_,_⟩:=h;own_form h1
theorem Segs.form (h:Segs w v p):∃ A c,v=.slice A p.length c∧p.length≤c∧c≤9223372036854775807:=by
 obtain ⟨q,⟨_,A,c,rfl,h1,h2,_⟩,_⟩:=h
 exact ⟨A,c,rfl,h1,h2⟩
theorem Segs.at_ {A:Option Addr} {n c k:Nat} {s:Piece} (h:Segs w (.slice A n c) p) (hk:p[k]?=some s) :
  ∃ b off x,A=some ⟨b,off,none⟩∧b<w.heap.size∧w.cell? ⟨b,off+k*2,none⟩=some (.int .i64 s.1)∧w.cell? ⟨b,off+k*2+1,none⟩=some x∧U32s w x s.2:=by
 obtain ⟨q,⟨hl,A',c',e,hn,hc,hr⟩,hq⟩:=h
 injection e with e1 e2 e3
 subst e1 e3
 have hlt:k<p.length:=(List.getElem?_eq_some_iff.1 hk).1
 obtain ⟨b,off,rfl,hb,hcell⟩:=hr (by omega)
 have hx:=List.getElem?_eq_getElem (show k<q.length by rw [hq.1];exact hlt)
 obtain ⟨h1,h2⟩:=segCells_at k p q s _ hk hx
 exact ⟨b,off,_,rfl,hb,hcell _ _ h1,by rw [Nat.add_assoc];exact hcell _ _ h2,hq.2 k s _ hk hx⟩
end
theorem row_seg (w:World) (k:Int) (x:Value) (t:TypeId):Row (w.alloc (.cells #[.int .i64 k,x] t)) 2 (.slice (some ⟨w.heap.size,0,none⟩) 1 1) 1 [.int .i64 k,x] :=
 ⟨rfl,_,1,rfl,Nat.le_refl _,by decide,fun _=>⟨w.heap.size,0,rfl,by simp,fun j u hj=>by
  match j,hj with
  | 0,hj =>
   simp at hj
   subst hj
   simp
  | 1,hj =>
   simp at hj
   subst hj
   simp⟩⟩
theorem row_seg_at (w:World) (k:Int) (x:Value) (t:TypeId) {B:Nat} (hB:B=w.heap.size):Row (w.alloc (.cells #[.int .i64 k,x] t)) 2 (.slice (some ⟨B,0,none⟩) 1 1) 1 [.int .i64 k,x]:=by subst hB;exact row_seg w k x t
theorem ones_segs:∀ (p:List Piece) (q:List Value),(∀ x∈q,x.oneCell'=true)→∀ u∈segCells p q,u.oneCell'=true
 | [],q,_,u,hu=>by cases q <;> simp [segCells] at hu
 | s :: p,[],_,u,hu=>by simp [segCells] at hu
 | s :: p,x :: q,h,u,hu=>by
  simp only [segCells,List.mem_cons] at hu
  rcases hu with rfl | rfl | hu
  ·rfl
  ·exact h _ (by simp)
  ·exact ones_segs p q (fun y hy=>h y (by simp [hy])) u hu
theorem one_u32s {w:World} {v:Value} {l:List Nat} (h:U32s w v l):v.oneCell'=true:=by
 obtain ⟨A,c,rfl,_⟩:=h.open_
 rfl
theorem Nums32.ones {w:World} {p:List Piece} {q:List Value} (h:Nums32 w p q):∀ x∈q,x.oneCell'=true:=fun x hx=>by
 obtain ⟨k,hk,e⟩:=List.getElem_of_mem hx
 have hk2:k<p.length:=by rw [← h.1];exact hk
 have h1:p[k]?=some p[k]:=List.getElem?_eq_getElem hk2
 exact one_u32s (h.2 k _ x h1 (by rw [List.getElem?_eq_getElem hk,e]))
theorem u32_lt {w:World} {b off m c:Nat} {l:List Nat} (h:U32s w (.slice (some ⟨b,off,none⟩) m c) l) (hm:0<m):b<w.heap.size:=by
 obtain ⟨⟨_,A,c',e,hn,_,hr⟩,_⟩:=h
 injection e with e1 e2 _
 obtain ⟨b',off',e3,hlt,_⟩:=hr (by omega)
 rw [e3] at e1
 injection e1 with e1
 injection e1 with e1
 omega
theorem u32_kept {W X W':World} {v1 v:Value} {l:List Nat} (hX:Below W.heap.size W X) (hg:X.grownBy W' v1.ownBlock) (h:U32s W v l)
  (hne:∀ b off m c,v=.slice (some ⟨b,off,none⟩) m c→0<m→v1.ownBlock≠some b):U32s W' v l:=by
 obtain ⟨⟨hl,A,c,rfl,hn,hc,hr⟩,hb⟩:=h
 refine ⟨⟨hl,A,c,rfl,hn,hc,fun h0=>?_⟩,hb⟩
 obtain ⟨b,off,rfl,hlt,hcell⟩:=hr h0
 have hlt2:b<X.heap.size:=Nat.lt_of_lt_of_le hlt hX.size
 have hsame:=hg.block b hlt2 (fun e=>hne b off _ c rfl h0 e.symm)
 refine ⟨b,off,rfl,Nat.lt_of_lt_of_le hlt2 hg.size,fun i x hx=>?_⟩
 rw [← hcell i x hx]
 exact World.cell?_of_block (hsame.trans (hX.block b hlt))
theorem Apart.one {v x:Value} (h:∀ b off m c,x=.slice (some ⟨b,off,none⟩) m c→0<m→v.ownBlock≠some b):Apart v [x]:=fun y hy=>by
 rw [List.mem_singleton.1 hy];exact h
theorem apart_old {w W:World} {t:TypeId} {base size n:Nat} {v:Value} {xs:List Value} {p:List Piece} {q:List Value} (h:W.ownsRow base t size v n xs) (hq:Nums32 w p q) (hb:w.heap.size≤base):Apart v q:=fun x hx b off m c e hm e2=>by
 obtain ⟨k,hk,e3⟩:=List.getElem_of_mem hx
 have hk2:k<p.length:=by rw [← hq.1];exact hk
 have hu:=hq.2 k _ x (List.getElem?_eq_getElem hk2) (by rw [List.getElem?_eq_getElem hk,e3])
 rw [e] at hu
 have h1:=u32_lt hu hm
 have h2:=(h.lt b e2).1
 omega
end Mem
namespace Segm
open Rise
def cutN (l:List Nat):Nat:=(l.length+254) / 255
def cut255 (l:List Nat) (j:Nat):List Nat:=(l.drop (255*j)).take 255
def cuts (k:Int) (l:List Nat):List Piece:=(List.range (cutN l)).map fun j=>(k,cut255 l j)
theorem cuts_nil (k:Int):cuts k []=[]:=rfl
theorem cut_zero (l:List Nat):cut255 l 0=l.take 255:=by simp [cut255]
theorem cut_succ (l:List Nat) (j:Nat):cut255 l (j+1)=cut255 (l.drop 255) j:=by unfold cut255;rw [List.drop_drop,show 255*(j+1)=255+255*j by omega]
theorem cutN_succ {l:List Nat} (h:l≠[]):cutN l=cutN (l.drop 255)+1:=by
 have:=List.length_pos_iff.2 h
 unfold cutN
 rw [List.length_drop]
 omega
theorem cuts_more (k:Int) {l:List Nat} (h:l≠[]):cuts k l=(k,l.take 255) :: cuts k (l.drop 255):=by
 unfold cuts
 rw [cutN_succ h,List.range_succ_eq_map,List.map_cons,cut_zero,List.map_map]
 congr 1
 apply List.map_congr_left
 intro j _
 simp only [Function.comp,cut_succ]
theorem cut_le (l:List Nat) (j:Nat):(cut255 l j).length≤255:=by unfold cut255;exact List.length_take_le 255 _
theorem cut_len {l:List Nat} {j:Nat} (h:j<cutN l):(cut255 l j).length=min 255 (l.length - 255*j)∧255*j<l.length:=by
 unfold cut255 cutN at *
 refine ⟨by simp,by omega⟩
def Closed (d:List Piece):Prop:=∀ s,d.getLast?=some s→¬ (s.1=2∧s.2.length<255)
theorem closed_nil:Closed []:=fun s h=>by simp at h
theorem closed_set (d:List Piece) (l:List Nat):Closed (d ++ [(1,l)]):=fun s h=>by
 simp at h
 subst h
 simp
theorem put_closed {d:List Piece} (h:Closed d) (n:Nat):putS d n=d ++ [(2,[n])]:=by
 rcases List.eq_nil_or_concat d with rfl | ⟨f,s,rfl⟩
 ·rfl
 ·rw [List.concat_eq_append] at *
  exact putS_full n (h s (by simp))
theorem puts_short {d:List Piece} (h:Closed d):∀ (n:Nat) (l:List Nat),l.length=n→n≤255→l≠[]→putsS d l=d ++ [(2,l)]
 | 0,l,hl,_,h0=>absurd (List.length_eq_zero_iff.1 hl) h0
 | n+1,l,hl,hn,h0=>by
  rcases List.eq_nil_or_concat l with rfl | ⟨m,c,rfl⟩
  ·exact absurd rfl h0
  ·rw [List.concat_eq_append] at *
   rw [putsS_snoc]
   have hm:m.length=n:=by simpa using hl
   by_cases hm0:m=[]
   ·rw [hm0,putsS_nil];exact put_closed h c
   ·rw [puts_short h n m hm (by omega) hm0]
    exact putS_room c rfl (by show m.length<255;omega)
theorem putsS_append (d:List Piece) (a b:List Nat):putsS d (a ++ b)=putsS (putsS d a) b:=by unfold putsS;rw [List.foldl_append]
theorem take_ne {l:List Nat} (h:255<l.length):l.take 255≠[]:=fun e=>by
 have h2:=List.length_take (i:=255) (l:=l)
 rw [e,List.length_nil] at h2
 omega
theorem puts_cuts:∀ (f:Nat) (d:List Piece) (l:List Nat),l.length≤f→Closed d→putsS d l=d ++ cuts 2 l
 | 0,d,l,h,_=>by rw [List.length_eq_zero_iff.1 (Nat.le_zero.1 h)];simp [putsS_nil,cuts_nil]
 | f+1,d,l,h,hc=>by
  by_cases h0:l=[]
  ·rw [h0];simp [putsS_nil,cuts_nil]
  ·have hp:=List.length_pos_iff.2 h0
   rw [cuts_more 2 h0]
   by_cases h1:255<l.length
   ·conv=>lhs;rw [← List.take_append_drop 255 l]
    rw [putsS_append,puts_short hc _ (l.take 255) rfl (List.length_take_le 255 l) (take_ne h1)]
    rw [puts_cuts f _ (l.drop 255) (by simp;omega) (fun s hs=>by
     simp at hs
     subst hs
     simp;omega)]
    simp
   ·rw [puts_short hc _ l rfl (by omega) h0,List.drop_of_length_le (by omega),cuts_nil,List.take_of_length_le (by omega)]
theorem puts_run {d:List Piece} (l:List Nat) (h:Closed d):putsS d l=d ++ cuts 2 l:=puts_cuts _ d l (Nat.le_refl _) h
theorem norm_seq {d:List Piece} {r:List Nat} {m:List Piece} {s:Piece} (h:putsS d r=normS m) (hs:s.1=2):putsS d (r ++ s.2)=normS (m ++ [s]):=by
 rw [normS_snoc,putsS_append,h,normOne,if_pos hs]
theorem norm_set {d:List Piece} {r:List Nat} {m:List Piece} {s:Piece} (hd:Closed d) (h:putsS d r=normS m) (hs:s.1=1) (h0:s.2≠[]):putsS (d ++ cuts 2 r ++ [(1,setOf s.2)]) []=normS (m ++ [s]):=by
 rw [normS_snoc,← h,normOne,if_neg (by rw [hs];decide),if_pos ⟨hs,h0⟩,puts_run r hd,putsS_nil]
theorem norm_drop {d:List Piece} {r:List Nat} {m:List Piece} {s:Piece} (h:putsS d r=normS m) (h2:¬ s.1=2) (h1:¬ (s.1=1∧s.2≠[])):putsS d r=normS (m ++ [s]):=by
 rw [normS_snoc,normOne,if_neg h2,if_neg h1,h]
theorem norm_end {d:List Piece} {r:List Nat} {m:List Piece} (hd:Closed d) (h:putsS d r=normS m):d ++ cuts 2 r=normS m:=by rw [← h,puts_run r hd]
end Segm
namespace Nums
open Go.RowKit Mem Rise
theorem refHas_any (v:Value) (l:List Nat) (n:Nat) (w:World) (hv:U32s w v l) :
  Calls Tryz.prog 178 #[v,.int .u32 n] w fun e w'=>e=.returned (.bool (decide (n∈l)))∧w=w':=by
 obtain ⟨A,c,rfl,hlc,hc,hl,hat⟩:=hv.open_
 go_enter Tryz.func178,Tryz.ntmps178
 go_wp2
 go_loop [5] (fun i=>∃ k:Nat,k≤l.length∧i=.int .i64 k∧n ∉ l.take k) (fun i=>l.length - (intOf i).toNat)
 case atStart=>exact ⟨0,Nat.zero_le _,rfl,by simp⟩
 case round =>
  obtain ⟨k,hk,rfl,hno⟩:=hrel
  by_cases hlt:k<l.length
  ·obtain ⟨b,off,x,rfl,hb,hx,hx32,hcell⟩:=hat k hlt
   by_cases he:x=n
   ·have HE:=hid he
    have ht:((x:Int) == (n:Int))=true:=by subst he;simp
    have HX:=hid hx
    clear he hx
    go_wp2
    go_ret
    exact ⟨ret_bool (decide_eq_true (by rw [← HE.out];exact List.mem_of_getElem? HX.out)).symm,rfl⟩
   ·have HE:=hid he
    have ht:((x:Int) == (n:Int))=false:=by simp;omega
    have HX:=hid hx
    clear he hx
    go_wp2
    go_round
    case rel=>exact ⟨k+1,by omega,by go_num,by rw [List.take_add_one,HX.out];simp;exact ⟨hno,fun e=>HE.out e.symm⟩⟩
    case measure=>simp [intOf];omega
  ·have hk2:k=l.length:=by omega
   have HK:=hid hk2
   clear hk2
   go_wp2
   go_ret
   exact ⟨ret_bool (decide_eq_false (by have:=hno;rw [HK.out,List.take_length] at this;exact this)).symm,rfl⟩
theorem elem32:∃ i,IsElem Tryz.prog 27 22 1 4 i (.int .u32 0):=IsElem.mk_ Tryz.underlying27 (by kernel_rfl) rfl (by decide)
theorem map_take (l:List Nat) (k:Nat):(l.map fun n:Nat=>Value.int .u32 n).take (k*1)=(l.take k).map fun n:Nat=>Value.int .u32 n:=by rw [Nat.mul_one,List.map_take]
theorem map_drop (l:List Nat) (k:Nat):(l.map fun n:Nat=>Value.int .u32 n).drop (k*1)=(l.drop k).map fun n:Nat=>Value.int .u32 n:=by rw [Nat.mul_one,List.map_drop]
end Nums
namespace PR
open Go.RowKit Mem
structure Pf where
 a:Nat
 n:Int
def Pf.ok (p:Pf):Prop:=p.a<4294967296∧(Lit.int .i64 p.n).wf=true
def pcell (p:Pf):List Value:=[.int .u32 p.a,.int .i64 p.n]
def pV (p:Pf):Value:=.agg #[.int .u32 p.a,.int .i64 p.n]
def pcells (l:List Pf):List Value:=l.flatMap pcell
theorem pcells_cons (p:Pf) (l:List Pf):pcells (p :: l)=pcell p ++ pcells l:=by simp [pcells]
theorem pcells_append (l m:List Pf):pcells (l ++ m)=pcells l ++ pcells m:=by simp [pcells]
theorem pcells_at:∀ (i:Nat) (l:List Pf) (p:Pf),l[i]?=some p→∀ j u,(pcell p)[j]?=some u→(pcells l)[i*2+j]?=some u
 | 0,b :: l,p,h,j,u,hu=>by
  simp at h
  subst h
  have hj:j<2:=by have:=(List.getElem?_eq_some_iff.1 hu).1;simpa [pcell] using this
  rw [pcells_cons,List.getElem?_append_left (by simp [pcell];omega),Nat.zero_mul,Nat.zero_add]
  exact hu
 | i+1,b :: l,p,h,j,u,hu=>by
  have h2:=pcells_at i l p (by simpa using h) j u hu
  rw [pcells_cons,List.getElem?_append_right (by simp [pcell];omega),show (i+1)*2+j - (pcell b).length=i*2+j by simp [pcell];omega]
  exact h2
 | 0,[],p,h,_,_,_=>by simp at h
 | i+1,[],p,h,_,_,_=>by simp at h
theorem ones_p (l:List Pf):∀ u∈pcells l,u.oneCell'=true:=fun u hu=>by
 obtain ⟨r,_,hr⟩:=List.mem_flatMap.1 hu
 simp only [pcell,List.mem_cons,List.not_mem_nil,or_false] at hr
 rcases hr with rfl | rfl <;> rfl
def Oks (l:List Pf):Prop:=∀ p∈l,p.ok
theorem Oks.append {l m:List Pf} (h:Oks l) (k:Oks m):Oks (l ++ m):=fun p hp=>(List.mem_append.1 hp).elim (h p) (k p)
theorem oks_nil:Oks []:=fun p h=>by simp at h
def Pfxs (w:World) (v:Value) (l:List Pf):Prop:=Row w 2 v l.length (pcells l)∧Oks l
section
variable {w w':World} {v:Value} {l:List Pf}
theorem Pfxs.keep (h:Pfxs w v l) (hb:Below w.heap.size w w'):Pfxs w' v l:=⟨h.1.keep hb,h.2⟩
theorem Pfxs.nil (w:World):Pfxs w (.slice none 0 0) []:=⟨Row.nil w 2,oks_nil⟩
theorem Pfxs.of_own {base:Nat} {e:TypeId} (h:w.ownsRow base e 2 v l.length (pcells l)) (hl:Oks l):Pfxs w v l:=⟨Row.of_own h,hl⟩
theorem Pfxs.form (h:Pfxs w v l):∃ A c,v=.slice A l.length c∧l.length≤c∧c≤9223372036854775807:=by
 obtain ⟨⟨_,A,c,rfl,h1,h2,_⟩,_⟩:=h
 exact ⟨A,c,rfl,h1,h2⟩
theorem Pfxs.at_ {A:Option Addr} {n c i:Nat} {p:Pf} (h:Pfxs w (.slice A n c) l) (hi:l[i]?=some p) :
  ∃ b off,A=some ⟨b,off,none⟩∧b<w.heap.size∧w.cell? ⟨b,off+i*2,none⟩=some (.int .u32 p.a)∧w.cell? ⟨b,off+i*2+1,none⟩=some (.int .i64 p.n):=by
 obtain ⟨⟨_,A',c',e,_,_,hr⟩,_⟩:=h
 injection e with e1 e2 e3
 subst e1 e3
 have hlt:=(List.getElem?_eq_some_iff.1 hi).1
 obtain ⟨b,off,rfl,hb,hc⟩:=hr (by omega)
 have k:=fun j u hu=>hc (i*2+j) u (pcells_at i l p hi j u hu)
 refine ⟨b,off,rfl,hb,k 0 _ rfl,?_⟩
 rw [Nat.add_assoc];exact k 1 _ rfl
end
end PR
end Go.Proofs.YtjfmompgkkdliaaGreatDoor
