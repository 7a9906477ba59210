/- Part of the proof. -/
import Derived.RangeFuncNested
import Derived.RangeFuncBound
import Derived.RangeFuncCalls
import Derived.RangeFuncLeaves
import Derived.RangeFuncBox
import Derived.Maps.AppendAt
import Derived.Test.YtjfmompgkkdliaaGreatDoorH00
set_option maxRecDepth 100000
set_option maxHeartbeats 40000000
namespace Go.Proofs.YtjfmompgkkdliaaGreatDoor
namespace Mem
open Go.RowKit Segm
theorem U32s.piece {w:World} {l:List Nat} {b off n c:Nat} (h:U32s w (.slice (some ⟨b,off,none⟩) n c) l) {j:Nat} (hj:j<cutN l) :
  U32s w (.slice (some ⟨b,off+255*j,none⟩) (min 255 (l.length - 255*j)) (min 255 (l.length - 255*j))) (cut255 l j):=by
 obtain ⟨⟨_,A,c',e,hn,hc,hr⟩,hl⟩:=h
 injection e with e1 e2 e3
 subst e1 e3
 obtain ⟨h1,h2⟩:=cut_len hj
 obtain ⟨b',off',e4,hlt,hcell⟩:=hr (by omega)
 injection e4 with e4
 injection e4 with e4 e5
 subst e4 e5
 rw [← h1]
 refine ⟨⟨by simp,_,_,rfl,Nat.le_refl _,by omega,fun _=>⟨b,off+255*j,rfl,hlt,fun i x hx=>?_⟩⟩,fun y hy=>hl y (List.mem_of_mem_drop (List.mem_of_mem_take hy))⟩
 rw [Nat.add_assoc]
 refine hcell _ x ?_
 unfold cut255 at hx
 rw [List.map_take,List.map_drop,List.getElem?_take] at hx
 split at hx
 ·rw [List.getElem?_drop] at hx
  exact hx
 ·cases hx
theorem u32_grown {W W':World} {row:Option Nat} {v:Value} {l:List Nat} (hg:W.grownBy W' row) (h:U32s W v l)
  (hne:∀ b off m c,v=.slice (some ⟨b,off,none⟩) m c→0<m→row≠some b):U32s W' v l:=by
 obtain ⟨⟨hl,A,c,rfl,hn,hc,hr⟩,hb⟩:=h
 refine ⟨⟨hl,A,c,rfl,hn,hc,fun h0=>?_⟩,hb⟩
 obtain ⟨b,off,rfl,hlt,hcell⟩:=hr h0
 have hsame:=hg.block b hlt (fun e=>hne b off _ c rfl h0 e.symm)
 refine ⟨b,off,rfl,Nat.lt_of_lt_of_le hlt hg.size,fun i x hx=>?_⟩
 rw [← hcell i x hx]
 exact World.cell?_of_block hsame
theorem u32_cells {W:World} {b off m c:Nat} {l:List Nat} (h:U32s W (.slice (some ⟨b,off,none⟩) m c) l) (hm:0<m):∃ x:Nat,W.cell? ⟨b,off,none⟩=some (.int .u32 x):=by
 obtain ⟨⟨_,A,c',e,hn,hc,hr⟩,_⟩:=h
 injection e with e1 e2 _
 subst e1
 obtain ⟨b',off',e3,_,hcell⟩:=hr (by omega)
 injection e3 with e3
 injection e3 with e3 e4
 subst e3 e4
 have hx:=List.getElem?_eq_getElem (show 0<l.length by omega)
 exact ⟨_,hcell 0 _ (by rw [List.getElem?_map,hx];rfl)⟩
theorem u32_box {W:World} {B:Nat} {t:TypeId} {A:Option Addr} {n k b off m c:Nat} {l:List Nat} (hB:Boxed W B t (.slice A n k)) (h:U32s W (.slice (some ⟨b,off,none⟩) m c) l) (hm:0<m):b≠B:=by
 obtain ⟨x,hx⟩:=u32_cells h hm
 rintro rfl
 have h1:W.heap[b]?=some (.cells #[.slice A n k] t (0,0)):=hB
 cases off with
 | zero=>rw [hB.cell] at hx;cases hx
 | succ off=>simp [World.cell?,h1] at hx
theorem u32_set {W:World} {B:Nat} {t:TypeId} {A:Option Addr} {n k:Nat} {v:Value} {l:List Nat} (hB:Boxed W B t (.slice A n k)) (h:U32s W v l) (v':Value):U32s (W.setCell ⟨B,0,none⟩ v') v l :=
 u32_grown (grownBy_setCell' W B v') h (by rintro b off m c rfl hm e;injection e with e;exact u32_box hB h hm e.symm)
theorem u32_own {W W':World} {row:Option Nat} {v:Value} {l:List Nat} (h:U32s W v l) (hg:W.grownBy W' row) (hr:∀ r,row=some r→∃ o:Obj,W.heap[r]?=some o∧o.isCells=false):U32s W' v l :=
 u32_grown hg h (by
  rintro b off m c rfl hm e
  obtain ⟨x,hx⟩:=u32_cells h hm
  obtain ⟨o,ho,hc⟩:=cells_of_cell hx
  obtain ⟨o',ho',hc'⟩:=hr b e
  rw [ho] at ho'
  cases ho'
  rw [hc] at hc'
  cases hc')
theorem own_own {W W':World} {row:Option Nat} {base:Nat} {e:TypeId} {size:Nat} {v:Value} {n:Nat} {xs:List Value} (h:W.ownsRow base e size v n xs) (hg:W.grownBy W' row) (hr:∀ r,row=some r→∃ o:Obj,W.heap[r]?=some o∧o.isCells=false):W'.ownsRow base e size v n xs:=by
 refine h.kept hg ?_
 rcases h.2 with ⟨rfl,_⟩ | ⟨g,cap,cur,rfl,_,hgb,_⟩
 ·exact .inl rfl
 ·refine .inr fun e'=>?_
  obtain ⟨o,ho,hc⟩:=hr g e'.symm
  rw [hgb] at ho
  cases ho
  cases hc
section
variable {W W':World} {p:List Piece} {q:List Value}
theorem Nums32.map (h:Nums32 W p q) (H:∀ x l,x∈q→U32s W x l→U32s W' x l):Nums32 W' p q:=⟨h.1,fun k s x h1 h2=>H x s.2 (List.mem_of_getElem? h2) (h.2 k s x h1 h2)⟩
theorem Nums32.set {B:Nat} {t:TypeId} {A:Option Addr} {n k:Nat} (h:Nums32 W p q) (hB:Boxed W B t (.slice A n k)) (v':Value):Nums32 (W.setCell ⟨B,0,none⟩ v') p q:=h.map fun _ _ _ hx=>u32_set hB hx v'
theorem Nums32.own {row:Option Nat} (h:Nums32 W p q) (hg:W.grownBy W' row) (hr:∀ r,row=some r→∃ o:Obj,W.heap[r]?=some o∧o.isCells=false):Nums32 W' p q:=h.map fun _ _ _ hx=>u32_own hx hg hr
theorem Nums32.grown {v1:Value} (h:Nums32 W p q) (hg:W.grownBy W' v1.ownBlock) (ha:Apart v1 q):Nums32 W' p q:=h.map fun x _ hq hx=>u32_grown hg hx (fun b off m c e hm=>ha x hq b off m c e hm)
theorem Nums32.lt (h:Nums32 W p q) {x:Value} (hx:x∈q) {b off m c:Nat} (e:x=.slice (some ⟨b,off,none⟩) m c) (hm:0<m):b<W.heap.size:=by
 obtain ⟨k,hk,e3⟩:=List.getElem_of_mem hx
 have hk2:k<p.length:=by rw [← h.1];exact hk
 have hu:=h.2 k _ x (List.getElem?_eq_getElem hk2) (by rw [List.getElem?_eq_getElem hk,e3])
 rw [e] at hu
 exact u32_lt hu hm
theorem Apart.grown {v v':Value} {M:Nat} (h:Apart v q) (hq:Nums32 W p q) (hat:v'.ownBlock=v.ownBlock∨v'.ownBlock=some M) (hM:W.heap.size≤M):Apart v' q:=fun x hx b off m c e hm=>by
 rcases hat with e2 | e2
 ·rw [e2];exact h x hx b off m c e hm
 ·rw [e2]
  have:=hq.lt hx e hm
  intro e3
  injection e3 with e3
  omega
theorem Apart.none (q:List Value):Apart (.slice .none 0 0) q:=fun x _ b off m c _ _ e=>by simp [Value.ownBlock] at e
end
structure Spared (B1 B2:Nat) (g:Option Nat) (W W':World):Prop where
 os:W'.os=W.os
 tape:W'.tape=W.tape
 output:W'.output=W.output
 size:W.heap.size≤W'.heap.size
 block:∀ k,k<W.heap.size→k≠B1→k≠B2→some k≠g→W'.heap[k]?=W.heap[k]?
section
variable {B1 B2:Nat} {g:Option Nat} {W X Y:World}
theorem Spared.refl:Spared B1 B2 g W W:=⟨rfl,rfl,rfl,Nat.le_refl _,fun _ _ _ _ _=>rfl⟩
theorem Spared.below (h:Spared B1 B2 g W X) {n:Nat} (hn:W.heap.size≤n) (k:Below n X Y):Spared B1 B2 g W Y :=
 ⟨k.os.trans h.os,k.tape.trans h.tape,k.output.trans h.output,Nat.le_trans h.size k.size,fun j hj h1 h2 h3=>(k.block j (by omega)).trans (h.block j hj h1 h2 h3)⟩
theorem Spared.grown (h:Spared B1 B2 g W X) {row:Option Nat} (k:X.grownBy Y row) (hr:∀ r,row=some r→r<W.heap.size→r=B1∨r=B2∨some r=g):Spared B1 B2 g W Y :=
 ⟨k.os.trans h.os,k.tape.trans h.tape,k.output.trans h.output,Nat.le_trans h.size k.size,fun j hj h1 h2 h3=>(k.block j (Nat.lt_of_lt_of_le hj h.size) (fun e=>by
  rcases hr j e.symm hj with h | h | h
  ·exact h1 h
  ·exact h2 h
  ·exact h3 h)).trans (h.block j hj h1 h2 h3)⟩
theorem Spared.of_below (h:Spared B1 B2 g W X) {n:Nat} (hn:n≤W.heap.size) (h1:n≤B1) (h2:n≤B2) (h3:∀ b,g=some b→n≤b):Below n W X :=
 ⟨h.os,h.tape,h.output,h.size,fun k hk=>h.block k (by omega) (by omega) (by omega) (fun e=>by have:=h3 k e.symm;omega)⟩
theorem Spared.u32 (h:Spared B1 B2 g W X) {v:Value} {l:List Nat} (hv:U32s W v l) (hne:∀ b off m c,v=.slice (some ⟨b,off,none⟩) m c→0<m→b≠B1∧b≠B2∧some b≠g):U32s X v l:=by
 obtain ⟨⟨hl,A,c,rfl,hn,hc,hr⟩,hb⟩:=hv
 refine ⟨⟨hl,A,c,rfl,hn,hc,fun h0=>?_⟩,hb⟩
 obtain ⟨b,off,rfl,hlt,hcell⟩:=hr h0
 obtain ⟨h1,h2,h3⟩:=hne b off _ c rfl h0
 refine ⟨b,off,rfl,Nat.lt_of_lt_of_le hlt h.size,fun i x hx=>?_⟩
 rw [← hcell i x hx]
 exact World.cell?_of_block (h.block b hlt h1 h2 h3)
end
def FreshQ (fb:Nat) (q:List Value):Prop:=∀ x∈q,∀ b off m c,x=.slice (some ⟨b,off,none⟩) m c→0<m→fb≤b
theorem FreshQ.nil (fb:Nat):FreshQ fb []:=fun _ hx=>by cases hx
theorem FreshQ.append {fb:Nat} {q q2:List Value} (h:FreshQ fb q) (h2:FreshQ fb q2):FreshQ fb (q ++ q2):=fun x hx=>(List.mem_append.1 hx).elim (h x) (h2 x)
theorem FreshQ.one {fb:Nat} {x:Value} (h:∀ b off m c,x=.slice (some ⟨b,off,none⟩) m c→0<m→fb≤b):FreshQ fb [x]:=fun y hy=>by rw [List.mem_singleton.1 hy];exact h
theorem FreshQ.lower {fb fb':Nat} {q:List Value} (h:FreshQ fb q) (hf:fb'≤fb):FreshQ fb' q:=fun x hx b off m c e hm=>Nat.le_trans hf (h x hx b off m c e hm)
def OwnSegsF (t:TypeId) (base fb:Nat) (w:World) (v:Value) (p:List Piece):Prop:=∃ q,w.ownsRow base t 2 v p.length (segCells p q)∧Nums32 w p q∧Apart v q∧FreshQ fb q
section
variable {w w':World} {v:Value} {p:List Piece} {t:TypeId} {base fb:Nat}
theorem OwnSegsF.own (h:OwnSegsF t base fb w v p):OwnSegs t base w v p:=let ⟨q,h1,h2,h3,_⟩:=h;⟨q,h1,h2,h3⟩
theorem OwnSegsF.segs (h:OwnSegsF t base fb w v p):Segs w v p:=h.own.segs
theorem OwnSegsF.keep (h:OwnSegsF t base fb w v p) (hb:Below w.heap.size w w'):OwnSegsF t base fb w' v p:=let ⟨q,h1,h2,h3,h4⟩:=h;⟨q,own_keep h1 hb,h2.keep hb,h3,h4⟩
theorem OwnSegsF.form (h:OwnSegsF t base fb w v p):∃ A c,v=.slice A p.length c:=h.own.form
theorem OwnSegsF.lower {base' fb':Nat} (h:OwnSegsF t base' fb' w v p) (hb:base≤base') (hf:fb≤fb'):OwnSegsF t base fb w v p:=let ⟨q,h1,h2,h3,h4⟩:=h;⟨q,own_base h1 hb,h2,h3,h4.lower hf⟩
end
def GivesSegsF (t:TypeId) (p:List Piece) (w:World) (e:Ending) (w':World):Prop:=∃ v,e=.returned v∧OwnSegsF t w.heap.size w.heap.size w' v p∧Below w.heap.size w w'
theorem segs_grownQ {W X W':World} {t:TypeId} {base L M c':Nat} {v:Value} {A':Option Addr} {p p2:List Piece} {q q2:List Value} (hX:Below W.heap.size W X) (hq:Nums32 W p q) (ha:Apart v q) (hq2:Nums32 W p2 q2) (ha2:Apart v q2)
  (hg:X.grownBy W' v.ownBlock) (hat:(Value.slice A' L c').ownBlock=v.ownBlock∨(Value.slice A' L c').ownBlock=some M) (hM:W.heap.size≤M) (hL:L=p.length+p2.length)
  (hown:W'.ownsRow base t 2 (.slice A' L c') L (segCells p q ++ segCells p2 q2)):W'.ownsRow base t 2 (.slice A' L c') (p ++ p2).length (segCells (p ++ p2) (q ++ q2))∧Nums32 W' (p ++ p2) (q ++ q2)∧Apart (.slice A' L c') (q ++ q2):=by
 have hall:Nums32 W (p ++ p2) (q ++ q2):=hq.append hq2
 have hap:Apart v (q ++ q2):=fun x hx=>(List.mem_append.1 hx).elim (ha x) (ha2 x)
 refine ⟨?_,⟨hall.1,fun k s x h1 h2=>u32_kept hX hg (hall.2 k s x h1 h2) (hap x (List.mem_of_getElem? h2))⟩,hap.grown hall hat hM⟩
 rw [segCells_append p q p2 q2 hq.1,List.length_append,← hL]
 exact hown
theorem own_apart {W:World} {base base2:Nat} {e e2:TypeId} {size size2:Nat} {v v2:Value} {n n2:Nat} {xs xs2:List Value} (h:W.ownsRow base e size v n xs) (h2:W.ownsRow base2 e2 size2 v2 n2 xs2) (hne:e≠e2) (b:Nat) (hb:v.ownBlock=some b):v2.ownBlock≠some b:=by
 rcases h.2 with ⟨rfl,_⟩ | ⟨g,cap,cur,rfl,_,hg,_⟩
 ·simp [Value.ownBlock] at hb
 rcases h2.2 with ⟨rfl,_⟩ | ⟨g2,cap2,cur2,rfl,_,hg2,_⟩
 ·simp [Value.ownBlock]
 intro hb2
 simp only [Value.ownBlock,Option.some.injEq] at hb hb2
 subst hb hb2
 rw [hg] at hg2
 injection hg2 with hg2
 injection hg2
 contradiction
end Mem
end Go.Proofs.YtjfmompgkkdliaaGreatDoor
