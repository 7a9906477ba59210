/- Part of the proof. -/
import Derived.Test.YtjfmompgkkdliaaGreatDoorG41
import Derived.Test.YtjfmompgkkdliaaGreatDoorG43
import Derived.Test.YtjfmompgkkdliaaGreatDoorG04
import Derived.Test.YtjfmompgkkdliaaGreatDoorG42
import Derived.Test.YtjfmompgkkdliaaGreatDoorG21
import Derived.Test.YtjfmompgkkdliaaGreatDoorG03
import Derived.Test.YtjfmompgkkdliaaGreatDoorG27
import Derived.Test.YtjfmompgkkdliaaGreatDoorG15
import Derived.Test.YtjfmompgkkdliaaGreatDoorG16
open Go.Lib (hid)
set_option maxRecDepth 100000
set_option maxHeartbeats 40000000
namespace Go.Proofs.YtjfmompgkkdliaaGreatDoor
namespace Msg
open Go.RowKit Mem Segm Oct Att Seg PR Opn Upd Ntc Frm
open Go.Lib (hid)
def mix (W W':World):World:={ W with heap:=Array.ofFn (n:=W'.heap.size) fun i=>if h:i.val<W.heap.size then W.heap[i.val] else W'.heap[i.val] }
theorem mix_low {W W':World} (hs:W.heap.size≤W'.heap.size):Below W.heap.size W (mix W W'):=by
 refine ⟨rfl,rfl,rfl,by simp [mix];exact hs,fun k hk=>?_⟩
 have hk2:k<W'.heap.size:=Nat.lt_of_lt_of_le hk hs
 simp [mix,hk,hk2]
theorem mix_off {W W':World} {n:Nat} (hs:W.heap.size≤W'.heap.size) (h:∀ k,k<W.heap.size→n≤k→W'.heap[k]?=W.heap[k]?):(∀ k,n≤k→W'.heap[k]?=(mix W W').heap[k]?)∧(mix W W').heap.size≤W'.heap.size:=by
 refine ⟨fun k hn=>?_,by simp [mix]⟩
 by_cases hk:k<W.heap.size
 ·rw [h k hk hn]
  exact ((mix_low hs).block k hk).symm
 ·by_cases hk2:k<W'.heap.size
  ·simp [mix,hk,hk2]
  ·have e1:W'.heap[k]?=none:=Array.getElem?_eq_none (Nat.le_of_not_lt hk2)
   have e2:(mix W W').heap[k]?=none:=Array.getElem?_eq_none (by simp [mix];omega)
   rw [e1,e2]
theorem updF_part {n:Nat} {W W':World} {v:Value} {u:Up} (h:UpdF n W v u) (hk:∀ k,k<W.heap.size→n≤k→W'.heap[k]?=W.heap[k]?) (hs:W.heap.size≤W'.heap.size):UpdF n W' v u :=
 let ⟨h1,h2⟩:=mix_off hs hk
 (h.keep (mix_low hs)).off h1 h2
def DecG (k:Int) (b:List Nat) (v:Value) (w:World) (e:Ending) (w':World):Prop :=
 ∃ U N x0 x1 x2,e=.returned (.tuple #[.agg (mcells (decM k b).1.kind (ocells (decM k b).1.op) U N).toArray,.agg #[x0,x1,x2]])∧Parts (ocells (decM k b).1.op) U N ∧
  (∀ S:Nat→Prop,(∀ j,w.heap.size≤j→S j)→(∀ j,0<b.length→v.ownBlock=some j→j<w.heap.size→S j)→Firm w' S (fun W=>Msgs W (.agg (mcells (decM k b).1.kind (ocells (decM k b).1.op) U N).toArray) (decM k b).1)) ∧
  Note w' (.agg #[x0,x1,x2]) (decM k b).2∧Below w.heap.size w w'
structure RdSt (w:World) (C D:Nat) (k:Int) (O U N:List Value) (y0 y1 y2:Value) (W:World):Prop where
 r1:BoxM W w.heap.size 0 (ocells zeroO) zU zN
 r2:Box3 W (w.heap.size+1) 34 (.int .i64 0) (.int .i64 0) (.slice none 0 0)
 m:BoxM W C k O U N
 n:Box3 W D 34 y0 y1 y2
 low:Below w.heap.size w W
 hC:w.heap.size+1<C∧w.heap.size+1<D∧C≠D
section
variable {w W W':World} {C D:Nat} {k k':Int} {O U N O' U' N':List Value} {y0 y1 y2 z0 z1 z2:Value}
theorem RdSt.keep (h:RdSt w C D k O U N y0 y1 y2 W) (hb:Below W.heap.size W W'):RdSt w C D k O U N y0 y1 y2 W' :=
 ⟨h.r1.keep hb,h.r2.keep hb,h.m.keep hb,h.n.keep hb,h.low.trans (hb.mono h.low.size),h.hC⟩
theorem RdSt.setM (h:RdSt w C D k O U N y0 y1 y2 W) (hb:BoxM W' C k' O' U' N') (ht:Turned C W W'):RdSt w C D k' O' U' N' y0 y1 y2 W':=by
 obtain ⟨h1,h2,h3⟩:=h.hC
 exact ⟨h.r1.turned ht (by omega),box3_turned h.r2 ht (by omega),hb,box3_turned h.n ht (fun e=>h3 e.symm),ht.low (by omega) h.low,h.hC⟩
theorem RdSt.setN (h:RdSt w C D k O U N y0 y1 y2 W) (hb:Box3 W' D 34 z0 z1 z2) (ht:Turned D W W'):RdSt w C D k O U N z0 z1 z2 W':=by
 obtain ⟨h1,h2,h3⟩:=h.hC
 exact ⟨h.r1.turned ht (by omega),box3_turned h.r2 ht (by omega),h.m.turned ht h3,hb,ht.low (by omega) h.low,h.hC⟩
end
def z3:Array Value:=#[.int .i64 0,.int .i64 0,.slice none 0 0]
theorem rd_start (w:World):BoxM ((w.alloc (.cells z19 36)).alloc (.cells z3 34)) w.heap.size 0 (ocells zeroO) zU zN∧Box3 ((w.alloc (.cells z19 36)).alloc (.cells z3 34)) (w.heap.size+1) 34 (.int .i64 0) (.int .i64 0) (.slice none 0 0) ∧
  Below w.heap.size w ((w.alloc (.cells z19 36)).alloc (.cells z3 34))∧w.heap.size+2=((w.alloc (.cells z19 36)).alloc (.cells z3 34)).heap.size:=by
 have b1:=box_msg w z19
 have hs:(w.alloc (.cells z19 36)).heap.size=w.heap.size+1:=by simp
 have b2:=box_low (w.alloc (.cells z19 36)) (.int .i64 0) (.int .i64 0) (.slice none 0 0)
 have h1:=BoxM.new w 36 0 (parts_z zeroO)
 rw [← z19_is] at h1
 have h2:=Box3.new (w.alloc (.cells z19 36)) 34 (.int .i64 0) (.int .i64 0) (.slice none 0 0)
 rw [hs] at h2
 exact ⟨h1.keep b2,h2,b1.trans (b2.mono b1.size),by simp⟩
theorem parts_n (o:Opn.Op) (x y z:Value) (hx:x.oneCell'=true) (hy:y.oneCell'=true) (hz:z.oneCell'=true) (kx:No8 x) (ky:No8 y) (kz:No8 z):Parts (ocells o) zU [x,y,z]:=by
 have h:=parts_z o
 refine ⟨rfl,rfl,rfl,h.oo,h.ou,fun v hv=>?_,fun v hv=>hv.elim (fun k=>h.n8 v (.inl k)) (fun k=>k.elim (fun k=>h.n8 v (.inr (.inl k))) (fun k=>?_))⟩
 ·simp only [List.mem_cons,List.not_mem_nil,or_false] at hv
  rcases hv with rfl | rfl | rfl <;> assumption
 ·simp only [List.mem_cons,List.not_mem_nil,or_false] at k
  rcases k with rfl | rfl | rfl <;> assumption
theorem msgs_plain (W:World) (k:Int) (o:Opn.Op) (ho:o.ok):Msgs W (.agg (mcells k (ocells o) zU zN).toArray) ⟨k,o,zeroU,noN⟩:=⟨zU,zN,rfl,parts_z o,ho,upds_z W,note_z W⟩
theorem firm_on {W W1 W2:World} {B:Nat} {v:Value} {Φ:World→Prop} {b:List Nat} (h:∀ S:Nat→Prop,(∀ j,B+2≤j→S j)→(∀ j,0<b.length→v.ownBlock=some j→j<B→S j)→Firm W S Φ) (t1:Turned B W.drew W1) (t2:Turned (B+1) W1 W2) (S:Nat→Prop) (h1:∀ j,B≤j→S j) (h2:∀ j,0<b.length→v.ownBlock=some j→j<B→S j):Firm W2 S Φ:=fun W' hk hs =>
 have hz:W.heap.size=W2.heap.size:=(t2.size.trans t1.size).symm
 h (fun j=>S j∧j≠B∧j≠B+1) (fun j hj=>⟨h1 j (by omega),by omega,by omega⟩) (fun j h0 hj hl=>⟨h2 j h0 hj hl,by omega,by omega⟩) W'
  (fun j hj ⟨s1,s2,s3⟩=>(hk j (by omega) s1).trans ((t2.block j s3).trans (t1.block j s2))) (by omega)
theorem note_on {w W W1 W2:World} {C D:Nat} {k:Int} {O U N:List Value} {y0 y1 y2 v:Value} {n:No} (st:RdSt w C D k O U N y0 y1 y2 W) (h:Note W v n) (t1:Turned w.heap.size W.drew W1) (t2:Turned (w.heap.size+1) W1 W2):Note W2 v n∧Below w.heap.size w W2:=by
 obtain ⟨q1,q2,vd,e,hd⟩:=h
 have hb:Below W.heap.size W W.drew:=(Below.refl _ _).drew
 have st:=st.keep hb
 have hd1:=u8_apart (hd.keep hb) st.r1.no8 t1.block (Nat.le_of_eq t1.size.symm)
 have hd2:=u8_apart hd1 ((box3_turned st.r2 t1 (Nat.succ_ne_self _)).no8 (no8_i _) (no8_i _) (no8_s _ _ _)) t2.block (Nat.le_of_eq t2.size.symm)
 exact ⟨⟨q1,q2,vd,e,hd2⟩,t2.low (by omega) (t1.low (Nat.le_refl _) st.low)⟩
end Msg
namespace Msg
open Go.RowKit Mem Segm Oct Att PR Opn Upd Ntc Frm
open Go.Lib (hid)
theorem pcs_bound (b:List Nat):(pcs b).1.length≤b.length∧∀ s∈(pcs b).1,s.2.length≤b.length∧s.2.length≤4077:=by
 induction hn:b.length using Nat.strongRecOn generalizing b with
 | _ n ih =>
  rw [pcs_step]
  split
  ·exact ⟨Nat.zero_le _,fun s hs=>by cases hs⟩
  ·split
   ·exact ⟨Nat.zero_le _,fun s hs=>by cases hs⟩
   ·rename_i h1 h2
    obtain ⟨-,h4,h5,-⟩:=headH_none (b:=b) (by simpa using h2)
    split
    ·exact ⟨Nat.zero_le _,fun s hs=>by cases hs⟩
    ·have hd:(b.drop (lenH b)).length=b.length - lenH b:=List.length_drop
     obtain ⟨h6,h7⟩:=ih _ (by omega) (b.drop (lenH b)) rfl
     refine ⟨by simp only [List.length_cons];omega,fun s hs=>?_⟩
     rcases List.mem_cons.1 hs with rfl | hs
     ·simp only [List.length_drop,List.length_take];omega
     ·have:=h7 s hs
      omega
def RestM (bad:No) (P:List Pc) (i:Nat) (F:List Ms) (k:Nat):Prop:=readL bad P=(F ++ (readL bad (P.drop i)).1,k+(readL bad (P.drop i)).2.1,(readL bad (P.drop i)).2.2)
section
variable {bad:No} {P:List Pc} {i k:Nat} {F:List Ms} {s:Pc}
theorem restm_start:RestM bad P 0 [] 0:=by simp [RestM]
theorem restm_end (h:RestM bad P i F k) (hi:P.length≤i):readL bad P=(F,k,bad):=by rw [h,List.drop_of_length_le hi];simp [readL]
theorem restm_cons (hs:P[i]?=some s):P.drop i=s :: P.drop (i+1):=by
 obtain ⟨h1,h2⟩:=List.getElem?_eq_some_iff.1 hs
 rw [List.drop_eq_getElem_cons h1,h2]
theorem restm_bad (h:RestM bad P i F k) (hs:P[i]?=some s) (hc:(decM s.1 s.2).2.code≠0):readL bad P=(F,k,(decM s.1 s.2).2):=by
 rw [h,restm_cons hs]
 obtain ⟨t,d⟩:=s
 unfold readL
 rw [if_neg hc]
 simp
theorem restm_more (h:RestM bad P i F k) (hs:P[i]?=some s) (hc:(decM s.1 s.2).2.code=0):RestM bad P (i+1) (F ++ [(decM s.1 s.2).1]) (k+19+s.2.length):=by
 unfold RestM
 rw [h,restm_cons hs]
 obtain ⟨t,d⟩:=s
 conv=>lhs;unfold readL
 rw [if_pos hc]
 simp [Nat.add_assoc]
end
def ReadF (RM:List Ms × Nat × No) (w:World) (e:Ending) (w':World):Prop :=
 ∃ A c x0 x1 x2,e=.returned (.tuple #[.slice A RM.1.length c,.int .i64 (RM.2.1:Nat),.agg #[x0,x1,x2]])∧Msgl w' (.slice A RM.1.length c) RM.1∧Note w' (.agg #[x0,x1,x2]) RM.2.2∧Below w.heap.size w w'
theorem ReadF.drew {RM:List Ms × Nat × No} {w W:World} {e:Ending} (h:ReadF RM w e W):ReadF RM w e W.drew:=by
 obtain ⟨A,c,x0,x1,x2,h1,h2,h3,h4⟩:=h
 have hd:Below W.heap.size W W.drew:=(Below.refl _ _).drew
 exact ⟨A,c,x0,x1,x2,h1,h2.keep hd,h3.keep hd,h4.drew⟩
theorem u8_hole {W W':World} {B:Nat} {v:Value} {l:List Nat} (h:U8s W v l) (hB:∀ i,W.cell? ⟨B,i,none⟩=none) (hk:∀ k,k<W.heap.size→k≠B→W'.heap[k]?=W.heap[k]?) (hs:W.heap.size≤W'.heap.size):U8s W' v l:=by
 obtain ⟨⟨hl,A,c,rfl,hn,hc,hr⟩,hb⟩:=h
 refine ⟨⟨hl,A,c,rfl,hn,hc,fun h0=>?_⟩,hb⟩
 obtain ⟨b,off,rfl,hlt,hcell⟩:=hr h0
 refine ⟨b,off,rfl,Nat.lt_of_lt_of_le hlt hs,fun i x hx=>?_⟩
 have h1:=hcell i x hx
 refine (World.cell?_of_block (hk b hlt (fun e=>?_))).trans h1
 subst e
 rw [hB] at h1
 cases h1
def Pcs (W:World) (pv:Value) (P:List Pc) (qs:List Value):Prop:=Row W 2 pv P.length (frmCells P qs)∧Bods W P qs
theorem Pcs.keep {W W':World} {pv:Value} {P:List Pc} {qs:List Value} (h:Pcs W pv P qs) (hb:Below W.heap.size W W'):Pcs W' pv P qs:=⟨h.1.keep hb,h.2.keep hb⟩
theorem Pcs.at_ {W:World} {A:Option Addr} {n c k:Nat} {P:List Pc} {qs:List Value} {s:Pc} (h:Pcs W (.slice A n c) P qs) (hk:P[k]?=some s) :
  ∃ b off x,A=some ⟨b,off,none⟩∧b<W.heap.size∧W.cell? ⟨b,off+k*2,none⟩=some (.int .i64 (s.1:Nat))∧W.cell? ⟨b,off+k*2+1,none⟩=some x∧U8s W x s.2∧x∈qs:=by
 obtain ⟨⟨hl,A',c',e,hn,hc,hr⟩,hq⟩:=h
 injection e with e1 e2 e3
 subst e1 e3
 have hlt:k<P.length:=(List.getElem?_eq_some_iff.1 hk).1
 obtain ⟨b,off,rfl,hb,hcell⟩:=hr (by omega)
 have hlt2:k<qs.length:=by rw [hq.1];exact hlt
 have hx:=List.getElem?_eq_getElem hlt2
 obtain ⟨h1,h2⟩:=frmCells_at k P qs s _ hk hx
 exact ⟨b,off,_,rfl,hb,hcell _ _ h1,by rw [Nat.add_assoc];exact hcell _ _ h2,hq.2 k s _ hk hx,List.getElem_mem hlt2⟩
theorem pcs_hole {W W':World} {B:Nat} {v:Value} {P:List Pc} {q:List Value} (h:Pcs W v P q) (hB:∀ i,W.cell? ⟨B,i,none⟩=none) (hk:∀ k,k<W.heap.size→k≠B→W'.heap[k]?=W.heap[k]?) (hs:W.heap.size≤W'.heap.size):Pcs W' v P q:=by
 obtain ⟨⟨hl,A,c,rfl,hn,hc,hr⟩,h2⟩:=h
 refine ⟨⟨hl,A,c,rfl,hn,hc,fun h0=>?_⟩,⟨h2.1,fun k s x e1 e2=>u8_hole (h2.2 k s x e1 e2) hB hk hs⟩⟩
 obtain ⟨b,off,rfl,hb,hcell⟩:=hr h0
 refine ⟨b,off,rfl,Nat.lt_of_lt_of_le hb hs,fun i x hx=>?_⟩
 have h1:=hcell i x hx
 refine (World.cell?_of_block (hk b hb (fun e=>?_))).trans h1
 subst e
 rw [hB] at h1
 cases h1
theorem bods_in {W:World} {P:List Pc} {q:List Value} {x:Value} (h:Bods W P q) (hx:x∈q):∃ l,U8s W x l:=by
 obtain ⟨k,hk,e⟩:=List.getElem_of_mem hx
 have hk2:k<P.length:=by rw [← h.1];exact hk
 exact ⟨_,h.2 k P[k] x (List.getElem?_eq_getElem hk2) (by rw [List.getElem?_eq_getElem hk,e])⟩
structure RrSt (w:World) (pv:Value) (P:List Pc) (qs:List Value) (D:Nat) (y0 y1 y2:Value) (n:No) (F:List Ms) (A:Option Addr) (cp:Nat) (W:World):Prop where
 box:Box3 W w.heap.size 34 (.int .i64 0) (.int .i64 0) (.slice none 0 0)
 low:Below w.heap.size w W
 own:OwnMsgl (fun j=>j≠w.heap.size) 36 (w.heap.size+1) W (.slice A F.length cp) F
 apart:Frm.Apart (.slice A F.length cp) qs
 firm:Firm W (fun j=>(Value.slice A F.length cp).ownBlock≠some j) (fun W=>Pcs W pv P qs∧Note W (.agg #[y0,y1,y2]) n∧Box3 W D 34 y0 y1 y2)
theorem RrSt.keep {w W W':World} {pv:Value} {P:List Pc} {qs:List Value} {D:Nat} {y0 y1 y2:Value} {n:No} {F:List Ms} {A:Option Addr} {cp:Nat} (h:RrSt w pv P qs D y0 y1 y2 n F A cp W) (hb:Below W.heap.size W W'):RrSt w pv P qs D y0 y1 y2 n F A cp W' :=
 ⟨h.box.keep hb,h.low.trans (hb.mono h.low.size),h.own.keep hb,h.apart,h.firm.keep hb⟩
theorem rr_end {w W:World} {pv:Value} {P:List Pc} {qs:List Value} {D k:Nat} {y0 y1 y2 z0 z1 z2:Value} {n n2:No} {F:List Ms} {A:Option Addr} {cp:Nat} (h:RrSt w pv P qs D y0 y1 y2 n F A cp W) (hn:Note W (.agg #[z0,z1,z2]) n2) :
  ReadF (F,k,n2) w (.returned (.tuple #[.slice A F.length cp,.int .i64 (k:Nat),.agg #[z0,z1,z2]])) (three W w.heap.size z0 z1 z2):=by
 have ho:=three_off W w.heap.size z0 z1 z2
 obtain ⟨q1,q2,vd,e,hd⟩:=hn
 exact ⟨A,cp,z0,z1,z2,rfl,(h.own.off (fun e=>e rfl) (Nat.lt_succ_self _) ho.1 ho.2).msgl,⟨q1,q2,vd,e,u8_apart hd (h.box.no8 (no8_i _) (no8_i _) (no8_s _ _ _)) ho.1 ho.2⟩,three_low h.low _ (Nat.le_refl _) _ _ _⟩
theorem rr_more {w y X W':World} {pv:Value} {P:List Pc} {qs:List Value} {D:Nat} {y0 y1 y2:Value} {n:No} {F:List Ms} {A A':Option Addr} {cp c':Nat} {q:List (List Value)} {x:List Value} {m:Ms} (hst:RrSt w pv P qs D y0 y1 y2 n F A cp y) (hX:Below y.heap.size y X) (h2:Rows (fun j=>j≠w.heap.size) y (.slice A F.length cp) F q)
  (hx:Firm y (fun j=>j≠w.heap.size∧(Value.slice A F.length cp).ownBlock≠some j) (fun W=>Msgs W (.agg x.toArray) m)) (hown:W'.ownsRow (w.heap.size+1) 36 19 (.slice A' (F.length+1) c') (F.length+1) (q.flatten ++ x)) (hg:X.grownBy W' (Value.slice A F.length cp).ownBlock)
  (hat:(Value.slice A' (F.length+1) c').ownBlock=(Value.slice A F.length cp).ownBlock∨(Value.slice A' (F.length+1) c').ownBlock=some X.heap.size) (hb:Below (w.heap.size+1) X W'):RrSt w pv P qs D y0 y1 y2 n (F ++ [m]) A' c' W':=by
 have hlow:=hst.low.trans (hX.mono hst.low.size)
 have hX2:=hlow.trans (hb.mono (Nat.le_succ _))
 have hb1:w.heap.size<X.heap.size:=Nat.lt_of_lt_of_le hst.box.lt hX.size
 have hl:(F ++ [m]).length=F.length+1:=by simp
 have hb0:(Value.slice A' (F.length+1) c').ownBlock=(Value.slice A F.length cp).ownBlock∨∀ j,j<y.heap.size→(Value.slice A' (F.length+1) c').ownBlock≠some j:=hat.imp_right (fun h j hj e=>by
  rw [h] at e
  injection e with e
  have:=hX.size
  omega)
 refine ⟨(hst.box.keep hX).below (fun k hk=>hb.block k (by omega)),hX2,?_,?_,?_⟩
 ·rw [hl]
  refine msgl_grown hX h2 (Rows.one hx) hg hat hX.size rfl (by simpa using hown)
 ·rw [hl]
  intro z hz b off k c e hm
  rcases hb0 with h | h
  ·rw [h];exact hst.apart z hz b off k c e hm
  ·obtain ⟨l,hu⟩:=bods_in hst.firm.now.1.2 hz
   rw [e] at hu
   exact h b (u8_lt hu hm)
 ·rw [hl]
  refine hst.firm.on (fun j hj hS=>⟨?_,(hg.block j (Nat.lt_of_lt_of_le hj hX.size) (fun e=>hS e.symm)).trans (hX.block j hj)⟩) (Nat.le_trans hX.size hg.size)
  rcases hb0 with h | h
  ·rw [h];exact hS
  ·exact h j hj
theorem elemMs:∃ i,IsElem Tryz.prog 46 36 19 208 i (.agg z19):=IsElem.mk_ Tryz.underlying46 (by kernel_rfl) rfl (by decide)
section
variable {o:Oper} {a:Act} {w:World} {Q:Exit→Act→World→Prop} {K:Act→World→Prop}
end
def Mid (R:Nat) (y:World) (v:Value) (k:Int) (b:List Nat) (s11 s12:Value) (W:World):Prop :=
 ∃ B C U N x0 x1 x2,s11=.pointer (some ⟨B,0,none⟩)∧s12=.pointer (some ⟨C,0,none⟩)∧BoxM W B (decM k b).1.kind (ocells (decM k b).1.op) U N∧Box3 W C 34 x0 x1 x2∧Note W (.agg #[x0,x1,x2]) (decM k b).2 ∧
  Firm W (fun j=>j≠R∧v.ownBlock≠some j) (fun W=>Msgs W (.agg (mcells (decM k b).1.kind (ocells (decM k b).1.op) U N).toArray) (decM k b).1)∧Below y.heap.size y W∧y.heap.size≤B
theorem note_ones {W:World} {x0 x1 x2:Value} {n:No} (h:Note W (.agg #[x0,x1,x2]) n):∀ v∈[x0,x1,x2],v.oneCell'=true:=by
 obtain ⟨-,-,vd,e,hd⟩:=h
 injection e with e
 obtain ⟨rfl,rfl,rfl⟩:x0=.int .i64 n.code∧x1=.int .i64 n.sub∧x2=vd:=by simpa using e
 obtain ⟨A,c,rfl,-,-⟩:=hd.form
 simp [Value.oneCell']
theorem rr_firm {w y u:World} {pv xv:Value} {P:List Pc} {qs:List Value} {D U0:Nat} {y0 y1 y2:Value} {n:No} {F:List Ms} {A:Option Addr} {cp:Nat} {d:List Nat} {Φ:World→Prop} (h:RrSt w pv P qs D y0 y1 y2 n F A cp y) (hx:xv∈qs) (hu:U8s y xv d) (h0:y.heap.size≤U0)
  (hf:∀ S:Nat→Prop,(∀ j,U0≤j→S j)→(∀ j,0<d.length→xv.ownBlock=some j→j<U0→S j)→Firm u S Φ):Firm u (fun j=>(j≠w.heap.size∧(Value.slice A F.length cp).ownBlock≠some j)∧¬ (y.heap.size≤j∧j<U0)) Φ:=by
 have hs:=h.box.lt
 obtain ⟨q,h1,-⟩:=h.own
 refine hf _ (fun j hj=>⟨⟨by omega,fun e=>by have:=(h1.lt j e).2;omega⟩,by omega⟩) (fun j hd hj hl=>?_)
 obtain ⟨A1,c1,rfl,-,-⟩:=hu.form
 obtain ⟨b,off,x,rfl,hb,-,-,hcell⟩:=hu.at_ hd
 simp only [Value.ownBlock,Option.some.injEq] at hj
 subst hj
 refine ⟨⟨fun e=>?_,h.apart _ hx _ _ _ _ rfl hd⟩,by omega⟩
 rw [e] at hcell
 exact h.box.no8 (no8_i _) (no8_i _) (no8_s _ _ _) _ _ hcell
theorem rr_mid {y u W3 W4 W5:World} {v:Value} {k k0:Int} {b:List Nat} {R B C U0:Nat} {U N O1 U1 N1:List Value} {x0 x1 x2 z0 z1 z2:Value} (hHY:Below y.heap.size y W3) (hHU:Below u.heap.size u W3) (h1:BoxM W3 B k0 O1 U1 N1) (h2:Box3 W3 C 34 z0 z1 z2) (k2:No8 z0∧No8 z1∧No8 z2) (hne:B≠C)
  (hB:y.heap.size≤B∧(B<U0∨u.heap.size≤B)) (hC:y.heap.size≤C∧(C<U0∨u.heap.size≤C)) (hn:Note u (.agg #[x0,x1,x2]) (decM k b).2) (hf:Firm u (fun j=>(j≠R∧v.ownBlock≠some j)∧¬ (y.heap.size≤j∧j<U0)) (fun W=>Msgs W (.agg (mcells (decM k b).1.kind (ocells (decM k b).1.op) U N).toArray) (decM k b).1))
  (h4:BoxM W4 B (decM k b).1.kind (ocells (decM k b).1.op) U N) (t4:Turned B W3 W4) (h5:Box3 W5 C 34 x0 x1 x2) (t5:Turned C W4 W5):Mid R y v k b (.pointer (some ⟨B,0,none⟩)) (.pointer (some ⟨C,0,none⟩)) W5:=by
 refine ⟨B,C,U,N,x0,x1,x2,rfl,rfl,h4.turned t5 hne,h5,?_,hf.on (fun j hj hS=>⟨hS.1,?_⟩) ?_,t5.low hC.1 (t4.low hB.1 hHY),hB.1⟩
 ·obtain ⟨q1,q2,vd,e,hd⟩:=hn
  exact ⟨q1,q2,vd,e,u8_apart (u8_apart (hd.keep hHU) h1.no8 t4.block (Nat.le_of_eq t4.size.symm)) ((box3_turned h2 t4 (fun e=>hne e.symm)).no8 k2.1 k2.2.1 k2.2.2) t5.block (Nat.le_of_eq t5.size.symm)⟩
 ·have hS2:=hS.2
  exact (t5.block j (by omega)).trans ((t4.block j (by omega)).trans (hHU.block j hj))
 ·rw [t5.size,t4.size];exact hHU.size
end Msg
namespace Msg
open Go.RowKit Mem Segm Oct Att PR Opn Upd Ntc Frm
open Go.Lib (hid)
theorem range_keep {W W':World} {b o:Nat} {cs:List Value} (h:W.rangeAt b o cs) (hb:Below W.heap.size W W'):W'.rangeAt b o cs:=fun j v hv=>keepsT hb (h j v hv)
section
variable {ops:Array Oper} {a:Act} {w:World} {Q:Exit→Act→World→Prop} {b o:Nat} {cs:List Value}
theorem tk_r {md:Region.Mode} {S:World→Prop} (i d:Nat) (x:Operand) {oi:Oper} {fuel:Nat} {listed:Array Bool} (hS:S w) (hB:∀ w,S w→w.rangeAt b o cs) (h:wpAnyH Tryz.prog md ops Q S fuel (listed.setIfInBounds i true) (a.put (some d) (.agg cs.toArray)) w)
  (hl:cs.length=19) (ho:oi.op=.load 36 x) (hx:a.eval x=.pointer (some ⟨b,o,none⟩)) (hi:ops[i]?=some oi) (hd:oi.dst=some d) (hc:Take.nextOk md ops listed i=true) (hw:Region.wanted oi (yielded ops a.tmps)=true)
  (hQ:∀ c a w,Q (.panic c) (a.put (some d) (.agg cs.toArray)) w→Q (.panic c) a w):wpAnyH Tryz.prog md ops Q S (fuel+1) listed a w:=by
 unfold Take.nextOk at hc
 simp only [Bool.and_eq_true] at hc
 rw [← hd] at h
 exact wpAnyH_take hi hc.1 hc.2.1 hc.2.2 (fun c a w=>by rw [hd];exact hQ c a w) (yieldsIf_load_mid hw _ x ho b o hx _ _ hB Tryz.underlying36 rfl (by rw [hl];kernel_rfl)) hS h
end
def ReadL (F:List Ms) (k:Nat) (n:No) (w:World) (e:Ending) (w':World):Prop :=
 ∃ A c A2 k2 c2,e=.returned (.tuple #[.slice A F.length c,.int .i64 (k:Nat),.agg #[.int .i64 n.code,.int .i64 n.sub,.slice A2 k2 c2]])∧Msgl w' (.slice A F.length c) F∧Note w' (.agg #[.int .i64 n.code,.int .i64 n.sub,.slice A2 k2 c2]) n∧Below w.heap.size w w'
theorem read_lit {F:List Ms} {k:Nat} {n:No} {w w':World} {e:Ending} (h:ReadF (F,k,n) w e w'):ReadL F k n w e w':=by
 obtain ⟨A,c,x0,x1,x2,rfl,h1,h2,h3⟩:=h
 have h4:=h2
 obtain ⟨-,-,vd,e,hd⟩:=h4
 obtain ⟨A2,c2,rfl,-,-⟩:=hd.form
 injection e with e
 obtain ⟨rfl,rfl,rfl⟩:x0=.int .i64 n.code∧x1=.int .i64 n.sub∧x2=.slice A2 n.data.length c2:=by simpa using e
 exact ⟨A,c,A2,_,c2,rfl,h1,h2,h3⟩
structure RwSt (w:World) (F:List Ms) (A1 A2:Option Addr) (c1 c2:Nat) (W:World):Prop where
 low:Below w.heap.size w W
 m1:Msgl W (.slice A1 F.length c1) F
 m2:Msgl W (.slice A2 F.length c2) F
theorem RwSt.keep {w W W':World} {F:List Ms} {A1 A2:Option Addr} {c1 c2:Nat} (h:RwSt w F A1 A2 c1 c2 W) (hb:Below W.heap.size W W'):RwSt w F A1 A2 c1 c2 W':=⟨h.low.trans (hb.mono h.low.size),h.m1.keep hb,h.m2.keep hb⟩
end Msg
namespace Msg
open Go.RowKit Mem Segm Oct Att Seg PR Opn Upd Ntc Frm
open Go.Lib (hid)
theorem only_lit {v:Value} {m:Ms} {w:World} (h:Msgs w v m):Calls Tryz.prog 13 #[v] w (OnlyL (onlyM m) w):=by
 obtain ⟨U,N,rfl,hp,ho,hu,hn⟩:=h
 exact (ronly13 m U N w hp).mono fun e w' ⟨h1,h2⟩=>⟨_,_,h1,(only_msgs hp ho hu hn).keep h2,h2⟩
def BodyL (l:List Nat) (w:World) (e:Ending) (w':World):Prop:=∃ A c,e=.returned (.slice A l.length c)∧U8s w' (.slice A l.length c) l∧Below w.heap.size w w'
structure Asked (w:World):Prop where
 good:∀ v m W,Msgs W v m→fewM m=m→Below w.heap.size w W→Calls Tryz.prog 9 #[v] W (Tells (.bool (goodM m)) W)
 only:∀ v m W,Msgs W v m→fewM m=m→Below w.heap.size w W→Calls Tryz.prog 12 #[v] W (OnlyL (onlyM m) W)
 same:∀ v v2 m n W,Msgs W v m→Msgs W v2 n→fewM m=m→fewM n=n→Below w.heap.size w W→Calls Tryz.prog 14 #[v,v2] W (Tells (.bool (sameM (onlyM m) (onlyM n))) W)
 enc:∀ v m W,Msgs W v m→fewM m=m→Below w.heap.size w W→Calls Tryz.prog 8 #[v] W (WrapF (encR m).1 (encR m).2 W)
 read:∀ v b W,U8s W v b→b.length≤40000→Below w.heap.size w W→Calls Tryz.prog 18 #[v] W (ReadF (readM b) W)
 lives:∀ W,Below w.heap.size w W→Calls Tryz.prog 15 #[] W (Tells (.bool true) W)
 rgood:∀ v m W,Msgs W v m→fewM m=m→Calls Tryz.prog 10 #[v] W (Tells (.bool (goodM m)) W)
 rbody:∀ v m W,Msgs W v m→fewM m=m→goodM m=true→Calls Tryz.prog 17 #[v] W (BodyL (bodyM m) W)
 len:∀ m,fewM m=m→goodM m=true→(bodyM m).length≤90000
 goodw:∀ v m W,Msgs W v m→fewM m=m→goodM m=true→(bodyM m).length≤4077→GoodW m
theorem writes_of (va vb : Value) (a b : Ms) (w : World) (ha : Msgs w va a) (hb : Msgs w vb b) (ask : Asked w) : Calls Tryz.prog 3 #[va, vb] w (Tells (.bool true) w) := by
  obtain ⟨q,hq⟩:∃ q,fewM a=q:=⟨_,rfl⟩
  obtain ⟨r,hr⟩:∃ r,fewM b=r:=⟨_,rfl⟩
  have HA:=hid (fun W (h:Below w.heap.size w W)=>few_lit (ha.keep h) hq)
  have HB:=hid (fun W (h:Below w.heap.size w W)=>few_lit (hb.keep h) hr)
  obtain ⟨U,N,rfl,hp,-⟩:=ha
  obtain ⟨U',N',rfl,hp',-⟩:=hb
  obtain ⟨x1,x2,x3⟩:=two_start (k:=a.kind) (k2:=b.kind) w hp hp'
  obtain ⟨w1,hw1⟩:∃ w1,(w.alloc (.cells (mcells a.kind (ocells a.op) U N).toArray 36)).alloc (.cells (mcells b.kind (ocells b.op) U' N').toArray 36)=w1:=⟨_,rfl⟩
  rw [hw1] at x1 x2 x3
  have hs1:w.heap.size+2≤w1.heap.size:=by rw [← hw1];simp
  have X1:=hid x1
  have X2:=hid x2
  have X3:=hid x3
  clear x1 x2 x3 hp hp'
  go_enter Tryz.func3,Tryz.ntmps3
  go_upto_region 1 with fail
  go_cut [] (fun wx=>∃ Uq Nq Ur Nr,Hid (Kept13 w q r Uq Nq Ur Nr wx))
  case first =>
    have hd:Below w1.heap.size w1 w1.drew:=(Below.refl _ w1).drew
    replace X1:=hid (X1.out.keep hd)
    replace X2:=hid (X2.out.keep hd)
    replace X3:=hid (X3.out.trans (hd.mono X3.out.size))
    have hz1:=hd.size
    clear hd hw1
    refine wp_region_noPanic ?_
    refine wp_region_held_drew (S:=fun _=>True) (by kernel_rfl) trivial (fun _=>?_)
    refine wpAnyH_ready (rs:=[0,2]) (by kernel_rfl) (by simp) ?_
    refine AllReadyH.cons (o:=_) (by rfl) (fun K1 hK=>?_) (AllReadyH.cons (o:=_) (by rfl) (fun K1 hK=>?_) AllReadyH.nil)
    all_goals
      rw [if_pos (by rfl)]
      first
        | (refine wp_load_m 11 rfl X1.out _ rfl rfl ?_
           have D0:=hid True.intro
           refine hK.out _ _ trivial (fun _=>?_)
           clear hK K1
           simp only [Act.put,Take.nm])
        | (refine wp_load_m 13 rfl X2.out _ rfl rfl ?_
           have D2:=hid True.intro
           refine hK.out _ _ trivial (fun _=>?_)
           clear hK K1
           simp only [Act.put,Take.nm])
        | (have tok := D0.out
           go_simp
           go_at_call 7
           refine (HA.out _ X3.out).mono ?_
           rintro e z ⟨Uq,Nq,rfl,hpq,hmq,hb⟩
           have PQ:=hid hpq
           have MQ:=hid (hmq.lower (Nat.le_trans hs1 hz1))
           replace hz1:=Nat.le_trans hz1 hb.size
           replace X1:=hid (X1.out.keep hb)
           replace X2:=hid (X2.out.keep hb)
           replace X3:=hid (X3.out.trans (hb.mono X3.out.size))
           (try go_wp2_with fail)
           refine hK.out _ _ trivial (fun _=>?_)
           clear hK K1 tok hpq hmq hb HA
           try simp only [Act.put,Take.nm])
        | (have tok := MQ.out
           go_simp
           go_at_call 7
           refine (HB.out _ X3.out).mono ?_
           rintro e z ⟨Ur,Nr,rfl,hpr,hmr,hb⟩
           have PR:=hid hpr
           have MR:=hid (hmr.lower (Nat.le_trans hs1 hz1))
           replace MQ:=hid (MQ.out.keep hb)
           replace hz1:=Nat.le_trans hz1 hb.size
           replace X1:=hid (X1.out.keep hb)
           replace X2:=hid (X2.out.keep hb)
           replace X3:=hid (X3.out.trans (hb.mono X3.out.size))
           (try go_wp2_with fail)
           refine hK.out _ _ trivial (fun _=>?_)
           clear hK K1 tok hpr hmr hb
           try simp only [Act.put,Take.nm])
    all_goals
      first
        | (have tok0:=D0.out;clear tok0;refine wpAnyH_ready (rs:=[1,2]) (by kernel_rfl) (by simp) ?_;refine AllReadyH.cons (o:=_) (by rfl) (fun K1 hK=>?_) (AllReadyH.cons (o:=_) (by rfl) (fun K1 hK=>?_) AllReadyH.nil))
        | (have tok0:=D2.out;clear tok0;refine wpAnyH_ready (rs:=[0]) (by kernel_rfl) (by simp) ?_;refine AllReadyH.cons (o:=_) (by rfl) (fun K1 hK=>?_) AllReadyH.nil)
    all_goals
      rw [if_pos (by rfl)]
      first
        | (refine wp_load_m 11 rfl X1.out _ rfl rfl ?_
           have D0:=hid True.intro
           refine hK.out _ _ trivial (fun _=>?_)
           clear hK K1
           simp only [Act.put,Take.nm])
        | (refine wp_load_m 13 rfl X2.out _ rfl rfl ?_
           have D2:=hid True.intro
           refine hK.out _ _ trivial (fun _=>?_)
           clear hK K1
           simp only [Act.put,Take.nm])
        | (have tok := D0.out
           go_simp
           go_at_call 7
           refine (HA.out _ X3.out).mono ?_
           rintro e z ⟨Uq,Nq,rfl,hpq,hmq,hb⟩
           have PQ:=hid hpq
           have MQ:=hid (hmq.lower (Nat.le_trans hs1 hz1))
           replace hz1:=Nat.le_trans hz1 hb.size
           replace X1:=hid (X1.out.keep hb)
           replace X2:=hid (X2.out.keep hb)
           replace X3:=hid (X3.out.trans (hb.mono X3.out.size))
           (try go_wp2_with fail)
           refine hK.out _ _ trivial (fun _=>?_)
           clear hK K1 tok hpq hmq hb HA
           try simp only [Act.put,Take.nm])
        | (have tok := MQ.out
           go_simp
           go_at_call 7
           refine (HB.out _ X3.out).mono ?_
           rintro e z ⟨Ur,Nr,rfl,hpr,hmr,hb⟩
           have PR:=hid hpr
           have MR:=hid (hmr.lower (Nat.le_trans hs1 hz1))
           replace MQ:=hid (MQ.out.keep hb)
           replace hz1:=Nat.le_trans hz1 hb.size
           replace X1:=hid (X1.out.keep hb)
           replace X2:=hid (X2.out.keep hb)
           replace X3:=hid (X3.out.trans (hb.mono X3.out.size))
           (try go_wp2_with fail)
           refine hK.out _ _ trivial (fun _=>?_)
           clear hK K1 tok hpr hmr hb
           try simp only [Act.put,Take.nm])
    all_goals
      first
        | (have tok0:=MQ.out;clear tok0;refine wpAnyH_ready (rs:=[2]) (by kernel_rfl) (by simp) ?_;refine AllReadyH.cons (o:=_) (by rfl) (fun K1 hK=>?_) AllReadyH.nil)
        | (have tok0:=D0.out;have tok1:=D2.out;clear tok0 tok1;refine wpAnyH_ready (rs:=[1]) (by kernel_rfl) (by simp) ?_;refine AllReadyH.cons (o:=_) (by rfl) (fun K1 hK=>?_) AllReadyH.nil)
    all_goals
      rw [if_pos (by rfl)]
      first
        | (refine wp_load_m 11 rfl X1.out _ rfl rfl ?_
           have D0:=hid True.intro
           refine hK.out _ _ trivial (fun _=>?_)
           clear hK K1
           simp only [Act.put,Take.nm])
        | (refine wp_load_m 13 rfl X2.out _ rfl rfl ?_
           have D2:=hid True.intro
           refine hK.out _ _ trivial (fun _=>?_)
           clear hK K1
           simp only [Act.put,Take.nm])
        | (have tok := D0.out
           go_simp
           go_at_call 7
           refine (HA.out _ X3.out).mono ?_
           rintro e z ⟨Uq,Nq,rfl,hpq,hmq,hb⟩
           have PQ:=hid hpq
           have MQ:=hid (hmq.lower (Nat.le_trans hs1 hz1))
           replace hz1:=Nat.le_trans hz1 hb.size
           replace X1:=hid (X1.out.keep hb)
           replace X2:=hid (X2.out.keep hb)
           replace X3:=hid (X3.out.trans (hb.mono X3.out.size))
           (try go_wp2_with fail)
           refine hK.out _ _ trivial (fun _=>?_)
           clear hK K1 tok hpq hmq hb HA
           try simp only [Act.put,Take.nm])
        | (have tok := MQ.out
           go_simp
           go_at_call 7
           refine (HB.out _ X3.out).mono ?_
           rintro e z ⟨Ur,Nr,rfl,hpr,hmr,hb⟩
           have PR:=hid hpr
           have MR:=hid (hmr.lower (Nat.le_trans hs1 hz1))
           replace MQ:=hid (MQ.out.keep hb)
           replace hz1:=Nat.le_trans hz1 hb.size
           replace X1:=hid (X1.out.keep hb)
           replace X2:=hid (X2.out.keep hb)
           replace X3:=hid (X3.out.trans (hb.mono X3.out.size))
           (try go_wp2_with fail)
           refine hK.out _ _ trivial (fun _=>?_)
           clear hK K1 tok hpr hmr hb
           try simp only [Act.put,Take.nm])
    all_goals
      first
        | (have tok0:=MQ.out;have tok1:=D2.out;clear tok0 tok1;refine wpAnyH_ready (rs:=[3]) (by kernel_rfl) (by simp) ?_;refine AllReadyH.cons (o:=_) (by rfl) (fun K1 hK=>?_) AllReadyH.nil)
    all_goals
      rw [if_pos (by rfl)]
      first
        | (refine wp_load_m 11 rfl X1.out _ rfl rfl ?_
           have D0:=hid True.intro
           refine hK.out _ _ trivial (fun _=>?_)
           clear hK K1
           simp only [Act.put,Take.nm])
        | (refine wp_load_m 13 rfl X2.out _ rfl rfl ?_
           have D2:=hid True.intro
           refine hK.out _ _ trivial (fun _=>?_)
           clear hK K1
           simp only [Act.put,Take.nm])
        | (have tok := D0.out
           go_simp
           go_at_call 7
           refine (HA.out _ X3.out).mono ?_
           rintro e z ⟨Uq,Nq,rfl,hpq,hmq,hb⟩
           have PQ:=hid hpq
           have MQ:=hid (hmq.lower (Nat.le_trans hs1 hz1))
           replace hz1:=Nat.le_trans hz1 hb.size
           replace X1:=hid (X1.out.keep hb)
           replace X2:=hid (X2.out.keep hb)
           replace X3:=hid (X3.out.trans (hb.mono X3.out.size))
           (try go_wp2_with fail)
           refine hK.out _ _ trivial (fun _=>?_)
           clear hK K1 tok hpq hmq hb HA
           try simp only [Act.put,Take.nm])
        | (have tok := MQ.out
           go_simp
           go_at_call 7
           refine (HB.out _ X3.out).mono ?_
           rintro e z ⟨Ur,Nr,rfl,hpr,hmr,hb⟩
           have PR:=hid hpr
           have MR:=hid (hmr.lower (Nat.le_trans hs1 hz1))
           replace MQ:=hid (MQ.out.keep hb)
           replace hz1:=Nat.le_trans hz1 hb.size
           replace X1:=hid (X1.out.keep hb)
           replace X2:=hid (X2.out.keep hb)
           replace X3:=hid (X3.out.trans (hb.mono X3.out.size))
           (try go_wp2_with fail)
           refine hK.out _ _ trivial (fun _=>?_)
           clear hK K1 tok hpr hmr hb
           try simp only [Act.put,Take.nm])
    all_goals
      refine wpAnyH_ready (rs:=[4]) (by kernel_rfl) (by simp) ?_
      refine AllReadyH.cons (o:=_) (by rfl) (fun K1 hK=>?_) AllReadyH.nil
      rw [if_pos (by rfl)]
      refine wp_store_m X1.out PQ.out _ _ rfl rfl rfl ?_
      intro w4 hb4 ht4
      refine hK.out _ _ trivial (fun _=>?_)
      clear hK K1
      try simp only [Act.put,Take.nm]
      refine wpAnyH_ready (rs:=[5]) (by kernel_rfl) (by simp) ?_
      refine AllReadyH.cons (o:=_) (by rfl) (fun K1 hK=>?_) AllReadyH.nil
      rw [if_pos (by rfl)]
      refine wp_store_m (X2.out.turned ht4 (Nat.succ_ne_self _)) PR.out _ _ rfl rfl rfl ?_
      intro w5 hb5 ht5
      refine hK.out _ _ trivial (fun _=>?_)
      clear hK K1
      simp only [Act.put]
      refine wpAnyH_done (by kernel_rfl) ?_ _
      refine NoPanic.normal ?_
      go_wp2_with fail
      go_meet
      exact ⟨_,_,_,_,hid (kept13 X3.out MQ.out MR.out hb4 ht4 hb5 ht5)⟩
  case rest =>
  obtain ⟨Uq,Nq,Ur,Nr,hst⟩:=hcut
  generalize wc=wk at hst ⊢
  have hq2:fewM q=q:=by rw [← hq];exact fewM_twice a
  have hr2:fewM r=r:=by rw [← hr];exact fewM_twice b
  have HK:=hid (fun W (h:Below wk.heap.size wk W)=>hst.out.keep h)
  have HW:=hid (fun W (h:Below wk.heap.size wk W)=>hst.out.low.trans (h.mono hst.out.low.size))
  have CF:=hid (fun W (h:Below wk.heap.size wk W)=>few_lit (HK.out W h).mq hq2)
  have CFR:=hid (fun W (h:Below wk.heap.size wk W)=>few_lit (HK.out W h).mr hr2)
  have CG:=hid (fun v W (h:Msgs W v q) (hb:Below wk.heap.size wk W)=>ask.good v q W h hq2 (HW.out W hb))
  have CRG:=hid (fun W (h:Below wk.heap.size wk W)=>ask.rgood _ q W (HK.out W h).mq hq2)
  have CO:=hid (fun v W (h:Msgs W v q) (hb:Below wk.heap.size wk W)=>ask.only v q W h hq2 (HW.out W hb))
  have CRO:=hid (fun W (h:Below wk.heap.size wk W)=>only_lit (HK.out W h).mq)
  have CRR:=hid (fun W (h:Below wk.heap.size wk W)=>only_lit (HK.out W h).mr)
  have CS1 := hid (fun va vb W (h1 : Msgs W va (onlyM q)) (h2 : Msgs W vb (onlyM q)) => show Calls Tryz.prog 11 #[va, vb] W (Tells (.bool true) W) from by
    have h3:=rsame13 va vb _ _ W h1 h2
    rw [sameM_iff.2 rfl] at h3
    exact h3)
  have CS2:=hid (fun va vb W (h1:Msgs W va (onlyM q)) (h2:Msgs W vb (onlyM r))=>rsame13 va vb _ _ W h1 h2)
  have CSM:=hid (fun va vb W (h1:Msgs W va q) (h2:Msgs W vb r) (hb:Below wk.heap.size wk W)=>ask.same va vb q r W h1 h2 hq2 hr2 (HW.out W hb))
  have CE:=hid (fun v W (h:Msgs W v q) (hb:Below wk.heap.size wk W)=>ask.enc v q W h hq2 (HW.out W hb))
  have CB:=hid (fun hg W (h:Below wk.heap.size wk W)=>ask.rbody _ q W (HK.out W h).mq hq2 hg)
  have CR:=hid (fun v b W (h:U8s W v b) (hl:b.length≤40000) (hb:Below wk.heap.size wk W)=>ask.read v b W h hl (HW.out W hb))
  have CL:=hid (fun W (hb:Below wk.heap.size wk W)=>ask.lives W (HW.out W hb))
  have HLB:=hid (fun hg=>ask.len q hq2 hg)
  have HGD:=hid (fun hg hl=>ask.goodw _ q wk (HK.out wk (Below.refl _ _)).mq hq2 hg hl)
  have HE:=hid (show encR q=if goodM q then (if 4077<(bodyM q).length then ([],6) else (wireM q,0)) else ([],1) from rfl)
  obtain ⟨g,hg⟩:∃ g,goodM q=g:=⟨_,rfl⟩
  obtain ⟨sm,hsm⟩:∃ s,sameM (onlyM q) (onlyM r)=s:=⟨_,rfl⟩
  rw [hg] at CG CRG
  rw [hsm] at CS2 CSM
  have HG:=hid hg
  have gg:(g != g)=false:=by cases g <;> rfl
  have ss:(sm != sm)=false:=by cases sm <;> rfl
  have BW:=hid (Below.refl wk.heap.size wk)
  unfold FewL at CF CFR
  unfold OnlyL at CO CRO CRR
  unfold WrapF at CE
  generalize hER:encR q=ER at CE HE
  obtain ⟨EB,er⟩:=ER
  dsimp only at CE
  clear hst HA HB X1 X2 X3 hs1 hw1 hq hr hq2 hr2 hsm hg ask hER
  have T0:=hid True.intro
  go_upto_region 3 with (first
    | (have tok:=T0.out;refine load_m (HK.out _ BW.out).bq _ rfl rfl (by kernel_rfl) ?_;clear T0 tok)
    | (go_at_call 7;refine (CF.out _ BW.out).mono ?_;rintro e z1 ⟨U1,N1,rfl,-,hm,hb⟩;have M1:=hid hm.msgs;replace BW:=hid (BW.out.trans (hb.mono BW.out.size));clear hm hb)
    | (go_at_call 8;refine (CE.out _ _ M1.out BW.out).mono ?_;rintro e z2 ⟨Ae,ce,rfl,hu,hb⟩;have HU:=hid hu;replace BW:=hid (BW.out.trans (hb.mono BW.out.size));clear hu hb M1))
  have HU2:=hid (fun W (h:Below z2.heap.size z2 W)=>HU.out.keep h)
  have BE:=BW
  generalize z2=zk at *
  go_cut [48] from 21 to 47 (fun s48 wx=>s48=.bool false∧Hid (Below zk.heap.size zk wx))
  case first =>
    have hd:Below zk.heap.size zk zk.drew:=(Below.refl _ zk).drew
    replace BW:=hid (BW.out.trans (hd.mono BW.out.size))
    have BZ:=hid hd
    refine wp_region_noPanic ?_
    refine wp_region_held_drew (S:=fun w'=>BoxM w' w.heap.size q.kind (ocells q.op) Uq Nq∧BoxM w' (w.heap.size+1) r.kind (ocells r.op) Ur Nr) (by kernel_rfl) ⟨(HK.out _ BW.out).bq,(HK.out _ BW.out).br⟩ (fun hS=>?_)
    clear hd
    refine tk_m 0 21 _ hS (fun _ h=>h.1) ?_ hS.1.parts rfl rfl rfl rfl (by kernel_rfl) rfl (fun _ _ _ h=>h)
    try simp only [Act.put,Take.nm]
    refine tk_m 3 24 _ hS (fun _ h=>h.1) ?_ hS.1.parts rfl rfl rfl rfl (by kernel_rfl) rfl (fun _ _ _ h=>h)
    try simp only [Act.put,Take.nm]
    refine wpAnyH_ready (rs:=[1]) (by kernel_rfl) (by simp) ?_
    refine AllReadyH.cons (o:=_) (by rfl) (fun K1 hK=>?_) AllReadyH.nil
    go_simp
    go_at_call 7
    refine (CF.out _ BW.out).mono ?_
    rintro e z ⟨U1,N1,rfl,-,hm,hb⟩
    replace BW:=hid (BW.out.trans (hb.mono BW.out.size))
    replace BZ:=hid (BZ.out.trans (hb.mono BZ.out.size))
    have M1:=hid hm.msgs
    clear hm
    (try go_wp2_with fail)
    refine hK.out _ _ ⟨hS.1.keep hb,hS.2.keep hb⟩ (fun hS2=>?_)
    clear hK K1 hb hS
    have hS:=hS2
    clear hS2
    try simp only [Act.put,Take.nm]
    refine wpAnyH_ready (rs:=[2]) (by kernel_rfl) (by simp) ?_
    refine AllReadyH.cons (o:=_) (by rfl) (fun K1 hK=>?_) AllReadyH.nil
    go_simp
    go_at_call 9
    refine (CG.out _ _ M1.out BW.out).mono ?_
    rintro e z ⟨rfl,hb⟩
    replace BW:=hid (BW.out.trans (hb.mono BW.out.size))
    replace BZ:=hid (BZ.out.trans (hb.mono BZ.out.size))
    clear M1
    (try go_wp2_with fail)
    refine hK.out _ _ ⟨hS.1.keep hb,hS.2.keep hb⟩ (fun hS2=>?_)
    clear hK K1 hb hS
    have hS:=hS2
    clear hS2
    try simp only [Act.put,Take.nm]
    refine wpAnyH_ready (rs:=[4]) (by kernel_rfl) (by simp) ?_
    refine AllReadyH.cons (o:=_) (by rfl) (fun K1 hK=>?_) AllReadyH.nil
    go_simp
    go_at_call 10
    refine (CRG.out _ BW.out).mono ?_
    rintro e z ⟨rfl,hb⟩
    replace BW:=hid (BW.out.trans (hb.mono BW.out.size))
    replace BZ:=hid (BZ.out.trans (hb.mono BZ.out.size))
    (try go_wp2_with fail)
    refine hK.out _ _ ⟨hS.1.keep hb,hS.2.keep hb⟩ (fun hS2=>?_)
    clear hK K1 hb hS
    have hS:=hS2
    clear hS2
    try simp only [Act.put,Take.nm]
    refine Take.tk (v:=.bool false) 5 26 hS ?_
    try simp only [Act.put,Take.nm]
    refine Take.tk 6 27 hS ?_
    try simp only [Act.put,Take.nm]
    refine tk_m 7 28 _ hS (fun _ h=>h.1) ?_ hS.1.parts rfl rfl rfl rfl (by kernel_rfl) rfl (fun _ _ _ h=>h)
    try simp only [Act.put,Take.nm]
    refine tk_m 10 31 _ hS (fun _ h=>h.1) ?_ hS.1.parts rfl rfl rfl rfl (by kernel_rfl) rfl (fun _ _ _ h=>h)
    try simp only [Act.put,Take.nm]
    refine wpAnyH_ready (rs:=[8]) (by kernel_rfl) (by simp) ?_
    refine AllReadyH.cons (o:=_) (by rfl) (fun K1 hK=>?_) AllReadyH.nil
    go_simp
    go_at_call 7
    refine (CF.out _ BW.out).mono ?_
    rintro e z ⟨U1,N1,rfl,-,hm,hb⟩
    replace BW:=hid (BW.out.trans (hb.mono BW.out.size))
    replace BZ:=hid (BZ.out.trans (hb.mono BZ.out.size))
    have M1:=hid hm.msgs
    clear hm
    (try go_wp2_with fail)
    refine hK.out _ _ ⟨hS.1.keep hb,hS.2.keep hb⟩ (fun hS2=>?_)
    clear hK K1 hb hS
    have hS:=hS2
    clear hS2
    try simp only [Act.put,Take.nm]
    refine wpAnyH_ready (rs:=[9]) (by kernel_rfl) (by simp) ?_
    refine AllReadyH.cons (o:=_) (by rfl) (fun K1 hK=>?_) AllReadyH.nil
    go_simp
    go_at_call 12
    refine (CO.out _ _ M1.out BW.out).mono ?_
    rintro e z ⟨U3,N3,rfl,hm,hb⟩
    replace BW:=hid (BW.out.trans (hb.mono BW.out.size))
    replace BZ:=hid (BZ.out.trans (hb.mono BZ.out.size))
    have M3:=hid hm
    clear hm M1
    (try go_wp2_with fail)
    refine hK.out _ _ ⟨hS.1.keep hb,hS.2.keep hb⟩ (fun hS2=>?_)
    clear hK K1 hb hS
    have hS:=hS2
    clear hS2
    try simp only [Act.put,Take.nm]
    refine wpAnyH_ready (rs:=[11]) (by kernel_rfl) (by simp) ?_
    refine AllReadyH.cons (o:=_) (by rfl) (fun K1 hK=>?_) AllReadyH.nil
    go_simp
    go_at_call 13
    refine (CRO.out _ BW.out).mono ?_
    rintro e z ⟨U4,N4,rfl,hm,hb⟩
    replace BW:=hid (BW.out.trans (hb.mono BW.out.size))
    replace BZ:=hid (BZ.out.trans (hb.mono BZ.out.size))
    have M4:=hid hm
    replace M3:=hid (M3.out.keep hb)
    clear hm
    (try go_wp2_with fail)
    refine hK.out _ _ ⟨hS.1.keep hb,hS.2.keep hb⟩ (fun hS2=>?_)
    clear hK K1 hb hS
    have hS:=hS2
    clear hS2
    try simp only [Act.put,Take.nm]
    refine wpAnyH_ready (rs:=[12]) (by kernel_rfl) (by simp) ?_
    refine AllReadyH.cons (o:=_) (by rfl) (fun K1 hK=>?_) AllReadyH.nil
    go_simp
    go_at_call 11
    refine (CS1.out _ _ _ M3.out M4.out).mono ?_
    rintro e z ⟨rfl,hb⟩
    replace BW:=hid (BW.out.trans (hb.mono BW.out.size))
    replace BZ:=hid (BZ.out.trans (hb.mono BZ.out.size))
    clear M3 M4
    (try go_wp2_with fail)
    refine hK.out _ _ ⟨hS.1.keep hb,hS.2.keep hb⟩ (fun hS2=>?_)
    clear hK K1 hb hS
    have hS:=hS2
    clear hS2
    try simp only [Act.put,Take.nm]
    refine Take.tk 13 34 hS ?_
    try simp only [Act.put,Take.nm]
    refine Take.tk 14 35 hS ?_
    try simp only [Act.put,Take.nm]
    refine Take.tk 15 36 hS ?_
    try simp only [Act.put,Take.nm]
    refine tk_m 16 37 _ hS (fun _ h=>h.1) ?_ hS.1.parts rfl rfl rfl rfl (by kernel_rfl) rfl (fun _ _ _ h=>h)
    try simp only [Act.put,Take.nm]
    refine tk_m 18 39 _ hS (fun _ h=>h.2) ?_ hS.2.parts rfl rfl rfl rfl (by kernel_rfl) rfl (fun _ _ _ h=>h)
    try simp only [Act.put,Take.nm]
    refine tk_m 21 42 _ hS (fun _ h=>h.1) ?_ hS.1.parts rfl rfl rfl rfl (by kernel_rfl) rfl (fun _ _ _ h=>h)
    try simp only [Act.put,Take.nm]
    refine tk_m 23 44 _ hS (fun _ h=>h.2) ?_ hS.2.parts rfl rfl rfl rfl (by kernel_rfl) rfl (fun _ _ _ h=>h)
    try simp only [Act.put,Take.nm]
    refine wpAnyH_ready (rs:=[17]) (by kernel_rfl) (by simp) ?_
    refine AllReadyH.cons (o:=_) (by rfl) (fun K1 hK=>?_) AllReadyH.nil
    go_simp
    go_at_call 7
    refine (CF.out _ BW.out).mono ?_
    rintro e z ⟨U1,N1,rfl,-,hm,hb⟩
    replace BW:=hid (BW.out.trans (hb.mono BW.out.size))
    replace BZ:=hid (BZ.out.trans (hb.mono BZ.out.size))
    have M1:=hid hm.msgs
    clear hm
    (try go_wp2_with fail)
    refine hK.out _ _ ⟨hS.1.keep hb,hS.2.keep hb⟩ (fun hS2=>?_)
    clear hK K1 hb hS
    have hS:=hS2
    clear hS2
    try simp only [Act.put,Take.nm]
    refine wpAnyH_ready (rs:=[19]) (by kernel_rfl) (by simp) ?_
    refine AllReadyH.cons (o:=_) (by rfl) (fun K1 hK=>?_) AllReadyH.nil
    go_simp
    go_at_call 7
    refine (CFR.out _ BW.out).mono ?_
    rintro e z ⟨U5,N5,rfl,-,hm,hb⟩
    replace BW:=hid (BW.out.trans (hb.mono BW.out.size))
    replace BZ:=hid (BZ.out.trans (hb.mono BZ.out.size))
    have M5:=hid hm.msgs
    replace M1:=hid (M1.out.keep hb)
    clear hm
    (try go_wp2_with fail)
    refine hK.out _ _ ⟨hS.1.keep hb,hS.2.keep hb⟩ (fun hS2=>?_)
    clear hK K1 hb hS
    have hS:=hS2
    clear hS2
    try simp only [Act.put,Take.nm]
    refine wpAnyH_ready (rs:=[20]) (by kernel_rfl) (by simp) ?_
    refine AllReadyH.cons (o:=_) (by rfl) (fun K1 hK=>?_) AllReadyH.nil
    go_simp
    go_at_call 14
    refine (CSM.out _ _ _ M1.out M5.out BW.out).mono ?_
    rintro e z ⟨rfl,hb⟩
    replace BW:=hid (BW.out.trans (hb.mono BW.out.size))
    replace BZ:=hid (BZ.out.trans (hb.mono BZ.out.size))
    clear M1 M5
    (try go_wp2_with fail)
    refine hK.out _ _ ⟨hS.1.keep hb,hS.2.keep hb⟩ (fun hS2=>?_)
    clear hK K1 hb hS
    have hS:=hS2
    clear hS2
    try simp only [Act.put,Take.nm]
    refine wpAnyH_ready (rs:=[22]) (by kernel_rfl) (by simp) ?_
    refine AllReadyH.cons (o:=_) (by rfl) (fun K1 hK=>?_) AllReadyH.nil
    go_simp
    go_at_call 13
    refine (CRO.out _ BW.out).mono ?_
    rintro e z ⟨U3,N3,rfl,hm,hb⟩
    replace BW:=hid (BW.out.trans (hb.mono BW.out.size))
    replace BZ:=hid (BZ.out.trans (hb.mono BZ.out.size))
    have M3:=hid hm
    clear hm
    (try go_wp2_with fail)
    refine hK.out _ _ ⟨hS.1.keep hb,hS.2.keep hb⟩ (fun hS2=>?_)
    clear hK K1 hb hS
    have hS:=hS2
    clear hS2
    try simp only [Act.put,Take.nm]
    refine wpAnyH_ready (rs:=[24]) (by kernel_rfl) (by simp) ?_
    refine AllReadyH.cons (o:=_) (by rfl) (fun K1 hK=>?_) AllReadyH.nil
    go_simp
    go_at_call 13
    refine (CRR.out _ BW.out).mono ?_
    rintro e z ⟨U4,N4,rfl,hm,hb⟩
    replace BW:=hid (BW.out.trans (hb.mono BW.out.size))
    replace BZ:=hid (BZ.out.trans (hb.mono BZ.out.size))
    have M4:=hid hm
    replace M3:=hid (M3.out.keep hb)
    clear hm
    (try go_wp2_with fail)
    refine hK.out _ _ ⟨hS.1.keep hb,hS.2.keep hb⟩ (fun hS2=>?_)
    clear hK K1 hb hS
    have hS:=hS2
    clear hS2
    try simp only [Act.put,Take.nm]
    refine wpAnyH_ready (rs:=[25]) (by kernel_rfl) (by simp) ?_
    refine AllReadyH.cons (o:=_) (by rfl) (fun K1 hK=>?_) AllReadyH.nil
    go_simp
    go_at_call 11
    refine (CS2.out _ _ _ M3.out M4.out).mono ?_
    rintro e z ⟨rfl,hb⟩
    replace BW:=hid (BW.out.trans (hb.mono BW.out.size))
    replace BZ:=hid (BZ.out.trans (hb.mono BZ.out.size))
    clear M3 M4
    (try go_wp2_with fail)
    refine hK.out _ _ ⟨hS.1.keep hb,hS.2.keep hb⟩ (fun hS2=>?_)
    clear hK K1 hb hS
    have hS:=hS2
    clear hS2
    try simp only [Act.put,Take.nm]
    refine Take.tk (v:=.bool false) 26 47 hS ?_
    try simp only [Act.put,Take.nm]
    refine Take.tk 27 48 hS ?_
    try simp only [Act.put,Take.nm]
    refine wpAnyH_done (by kernel_rfl) ?_ _
    refine NoPanic.normal ?_
    go_wp2_with fail
    go_meet
    exact ⟨rfl,BZ⟩
  case rest =>
  rename_i HKK
  refine HKK _ _ ?_
  clear HKK
  obtain ⟨rfl,BZ⟩:=hcut
  replace BW:=hid (BE.out.trans (BZ.out.mono BE.out.size))
  replace HU:=hid (HU2.out _ BZ.out)
  clear HU2 BE BZ CF CFR CG CO CRR CS2 CSM CE gg ss
  have T0:=hid True.intro
  by_cases hgt:g=true
  · subst hgt
    have HGW:=hid (show goodM q=true from HG.out)
    go_upto_region 7 with (first
      | (have tok:=T0.out;refine load_m (HK.out _ BW.out).bq _ rfl rfl (by kernel_rfl) ?_;clear T0 tok)
      | (go_at_call 10;refine (CRG.out _ BW.out).mono ?_;rintro e z3 ⟨rfl,hb⟩;replace BW:=hid (BW.out.trans (hb.mono BW.out.size));replace HU:=hid (HU.out.keep hb);clear hb))
    obtain ⟨L,hLe⟩:∃ L,wireM q=L:=⟨_,rfl⟩
    have hLw:wrapB q.kind (bodyM q)=L:=hLe
    have hLn:=wrapB_len q.kind (bodyM q)
    have hLb:=HLB.out HGW.out
    rw [hLw] at hLn
    have CW:=hid (fun v W (h:U8s W v (bodyM q))=>rwrap_any q.kind v (bodyM q) W h (by omega))
    rw [hLw] at CW
    have HLN:=hid hLn
    clear hLn
    have HLS:=hid (fun (h:Small (bodyM q))=>show Small L from by rw [← hLw];exact wrapB_small h)
    have hd:Below z3.heap.size z3 z3.drew:=(Below.refl _ z3).drew
    replace BW:=hid (BW.out.trans (hd.mono BW.out.size))
    replace HU:=hid (HU.out.keep hd)
    refine wp_region_noPanic ?_
    refine wp_region_held_drew (S:=fun w'=>w'.cell? ⟨w.heap.size,0,none⟩=some (.int .i64 q.kind)∧BoxM w' w.heap.size q.kind (ocells q.op) Uq Nq) (by kernel_rfl) ⟨(HK.out _ BW.out).bq.c0,(HK.out _ BW.out).bq⟩ (fun hS=>?_)
    clear hd
    refine Take.tk 0 62 hS ?_
    try simp only [Act.put,Take.nm]
    refine Take.tk 1 63 hS ?_
    try simp only [Act.put,Take.nm]
    refine tk_m 2 64 _ hS (fun _ h=>h.2) ?_ hS.2.parts rfl rfl rfl rfl (by kernel_rfl) rfl (fun _ _ _ h=>h)
    try simp only [Act.put,Take.nm]
    refine wpAnyH_ready (rs:=[3]) (by kernel_rfl) (by simp) ?_
    refine AllReadyH.cons (o:=_) (by rfl) (fun K1 hK=>?_) AllReadyH.nil
    go_simp
    go_at_call 17
    refine (CB.out HGW.out _ BW.out).mono ?_
    rintro e z ⟨A8,c8,rfl,hu,hb⟩
    replace BW:=hid (BW.out.trans (hb.mono BW.out.size))
    replace HU:=hid (HU.out.keep hb)
    have V8:=hid hu
    clear hu
    (try go_wp2_with fail)
    refine hK.out _ _ ⟨keepsT hb hS.1,hS.2.keep hb⟩ (fun hS2=>?_)
    clear hK K1 hb hS
    have hS:=hS2
    clear hS2
    try simp only [Act.put,Take.nm]
    refine wpAnyH_ready (rs:=[4]) (by kernel_rfl) (by simp) ?_
    refine AllReadyH.cons (o:=_) (by rfl) (fun K1 hK=>?_) AllReadyH.nil
    go_simp
    go_at_call 16
    refine (CW.out _ _ V8.out).mono ?_
    rintro e z ⟨A9,c9,rfl,ho,hb⟩
    replace BW:=hid (BW.out.trans (hb.mono BW.out.size))
    replace HU:=hid (HU.out.keep hb)
    have V9:=hid (U8s.of_own ho (HLS.out V8.out.2))
    clear ho V8
    (try go_wp2_with fail)
    refine hK.out _ _ ⟨keepsT hb hS.1,hS.2.keep hb⟩ (fun hS2=>?_)
    clear hK K1 hb hS
    have hS:=hS2
    clear hS2
    try simp only [Act.put,Take.nm]
    refine Take.tk 5 7 hS ?_
    try simp only [Act.put,Take.nm]
    refine wpAnyH_done (by kernel_rfl) ?_ _
    refine NoPanic.normal ?_
    clear hS
    by_cases hlong:4077<(bodyM q).length
    · obtain ⟨rfl, rfl⟩ : EB = [] ∧ er = 6 := by
        have h:=HE.out
        rw [HG.out,if_pos rfl,if_pos hlong] at h
        simpa using h
      have zl:(4096:Int)<(L.length:Int):=by have:=HLN.out;omega
      go_wp2_with (go_at_call 15;refine (CL.out _ BW.out).mono ?_;rintro e z4 ⟨rfl,hb⟩;replace BW:=hid (BW.out.trans (hb.mono BW.out.size));clear hb)
      go_ret
      exact ⟨rfl,HW.out _ BW.out⟩
    · obtain ⟨rfl, rfl⟩ : EB = L ∧ er = 0 := by
        have h:=HE.out
        rw [HG.out,if_pos rfl,if_neg hlong,hLe] at h
        simpa using h
      have zl:¬ ((4096:Int)<(EB.length:Int)):=by have:=HLN.out;omega
      have zm:EB.length≤4096:=by omega
      have HRD := hid (show readM EB = ([onlyM q], EB.length, noN) from by
        have h:=read_many [q] (fun m hm=>by rw [List.mem_singleton.1 hm];exact HGD.out HGW.out (by omega))
        simpa [hLe] using h)
      have CR2:=hid (fun v W (h:U8s W v EB) (hb:Below wk.heap.size wk W)=>(CR.out v EB W h (by omega) hb).mono fun _ _ h2=>read_lit (HRD.out ▸ h2))
      unfold ReadL noN at CR2
      dsimp only at CR2
      obtain ⟨i0,E0⟩:=elem8
      simp only [List.length_singleton] at CR2
      have HA:=hid ((Below.refl z.heap.size z).alloc (Nat.le_refl _) (.cells #[] 5))
      clear hlong HE HRD HLS CW hLw hLe
      go_upto_region 11 with (first
        | (at_builtin;refine wpList_append_row rfl (.tmp 81) (.tmp 82) rfl E0 z.heap.size _ 0 [] rfl (own_lit8 z [] _ 0 rfl rfl (by decide)) _ EB.length (cells8 EB) rfl (V9.out.keep HA.out).1 (ones8 _) (by unfold maxLen;omega) (by omega) HA.out.size EB.length (Nat.zero_add _) ?_;intro A1 c1 x1 hown hg hat hb;have hb2:=HA.out.trans hb;have V1:=hid (U8s.of_own (base:=z.heap.size) (show x1.ownsRow z.heap.size 5 1 (.slice A1 EB.length c1) EB.length (cells8 EB) from hown) V9.out.2);replace BW:=hid (BW.out.trans (hb2.mono BW.out.size));replace HU:=hid (HU.out.keep hb2);replace V9:=hid (V9.out.keep hb2);clear hown hg hat hb hb2)
        | (go_at_call 18;refine (CR2.out _ _ V1.out BW.out).mono ?_;rintro e x3 ⟨A3,c3,A4,k4,c4,rfl,hm,hN,hb⟩;have hb2:=box_low x3 (.int .i64 0) (.int .i64 0) (.slice A4 k4 c4);have B3:=hid (BW.out.trans (hb.mono BW.out.size));replace BW:=hid (B3.out.trans (hb2.mono B3.out.size));replace HU:=hid ((HU.out.keep hb).keep hb2);replace V9:=hid ((V9.out.keep hb).keep hb2);have M3:=hid (hm.keep hb2);have X3:=hid (Box3.new x3 34 (.int .i64 0) (.int .i64 0) (.slice A4 k4 c4));clear hm hN hb hb2 B3))
      obtain ⟨b1,o1,U1',N1',rfl,hb1,hr1,hp1,hm1⟩:=M3.out.at_ (k:=0) (m:=onlyM q) rfl
      have HP1:=hid hp1
      have hd:=(Below.refl (x3.alloc (.cells #[.int .i64 0,.int .i64 0,.slice A4 k4 c4] 34)).heap.size (x3.alloc (.cells #[.int .i64 0,.int .i64 0,.slice A4 k4 c4] 34))).drew
      replace BW:=hid (BW.out.trans (hd.mono BW.out.size))
      replace HU:=hid (HU.out.keep hd)
      replace V9:=hid (V9.out.keep hd)
      have HM1:=hid (hm1.keep hd)
      have hr2:=range_keep hr1 hd
      have hn2:=keepsT hd X3.out.cells.1
      have xx:=txt_same EB
      clear hm1 hp1 hr1 hd M3 X3
      rw [Nat.zero_mul,Nat.add_zero] at hr2
      refine wp_region_noPanic ?_
      refine wp_region_held_drew (S:=fun w'=>(convert 32 9 (.slice Ae EB.length ce)).run Tryz.prog w'=.ok (.string (txt EB)) w'∧(convert 32 9 (.slice A9 EB.length c9)).run Tryz.prog w'=.ok (.string (txt EB)) w'∧w'.cell? ⟨x3.heap.size,0,none⟩=some (.int .i64 0)∧w'.rangeAt b1 o1 (mcells (onlyM q).kind (ocells (onlyM q).op) U1' N1')∧BoxM w' w.heap.size q.kind (ocells q.op) Uq Nq) (by kernel_rfl) ⟨text8 HU.out,text8 V9.out,hn2,hr2,(HK.out _ BW.out).bq⟩ (fun hS=>?_)
      clear hn2 hr2
      refine Take.tk 0 88 hS ?_
      refine Take.tk 1 89 hS ?_
      refine Take.tk 2 90 hS ?_
      try simp only [Act.put,Take.nm]
      refine Take.tk 3 91 hS ?_
      refine Take.tk 4 92 hS ?_
      refine Take.tk 5 93 hS ?_
      try simp only [Act.put,Take.nm]
      refine Take.tk 6 94 hS ?_
      refine Take.tk 7 95 hS ?_
      refine Take.tk 8 96 hS ?_
      try simp only [Act.put,Take.nm]
      refine Take.tk 9 97 hS ?_
      refine Take.tk 10 98 hS ?_
      refine Take.tk 11 99 hS ?_
      try simp only [Act.put,Take.nm]
      refine Take.tk 12 100 hS ?_
      refine Take.tk 13 101 hS ?_
      refine Take.tk 14 102 hS ?_
      try simp only [Act.put,Take.nm]
      refine Take.tk 15 103 hS ?_
      refine Take.tk 16 104 hS ?_
      refine Take.tk 17 105 hS ?_
      try simp only [Act.put,Take.nm]
      refine Take.tk 18 106 hS ?_
      refine Take.tk 19 107 hS ?_
      refine Take.tk 20 108 hS ?_
      try simp only [Act.put,Take.nm]
      refine Take.tk 21 109 hS ?_
      refine Take.tk 22 110 hS ?_
      refine Take.tk 23 111 hS ?_
      try simp only [Act.put,Take.nm]
      refine Take.tk 24 112 hS ?_
      refine Take.tk 25 113 hS ?_
      refine Take.tk 26 114 hS ?_
      try simp only [Act.put,Take.nm]
      refine Take.tk 27 115 hS ?_
      try simp only [Act.put,Take.nm]
      refine tk_r 28 116 _ hS (fun _ h=>h.2.2.2.1) ?_ (mcells_len HP1.out.lo HP1.out.lu HP1.out.ln) rfl rfl rfl rfl (by kernel_rfl) rfl (fun _ _ _ h=>h)
      try simp only [Act.put,Take.nm]
      refine tk_m 29 117 _ hS (fun _ h=>h.2.2.2.2) ?_ hS.2.2.2.2.parts rfl rfl rfl rfl (by kernel_rfl) rfl (fun _ _ _ h=>h)
      try simp only [Act.put,Take.nm]
      refine wpAnyH_ready (rs:=[30]) (by kernel_rfl) (by simp) ?_
      refine AllReadyH.cons (o:=_) (by rfl) (fun K1 hK=>?_) AllReadyH.nil
      go_simp
      go_at_call 13
      refine (CRO.out _ BW.out).mono ?_
      rintro e z ⟨U4,N4,rfl,hm,hb⟩
      replace BW:=hid (BW.out.trans (hb.mono BW.out.size))
      replace HU:=hid (HU.out.keep hb)
      replace V9:=hid (V9.out.keep hb)
      have M4:=hid hm
      replace HM1:=hid (HM1.out.keep hb)
      clear hm
      (try go_wp2_with fail)
      refine hK.out _ _ ⟨text8 HU.out,text8 V9.out,keepsT hb hS.2.2.1,range_keep hS.2.2.2.1 hb,hS.2.2.2.2.keep hb⟩ (fun hS2=>?_)
      clear hK K1 hb hS
      have hS:=hS2
      clear hS2
      try simp only [Act.put,Take.nm]
      refine wpAnyH_ready (rs:=[31]) (by kernel_rfl) (by simp) ?_
      refine AllReadyH.cons (o:=_) (by rfl) (fun K1 hK=>?_) AllReadyH.nil
      go_simp
      go_at_call 11
      refine (CS1.out _ _ _ HM1.out M4.out).mono ?_
      rintro e z ⟨rfl,hb⟩
      replace BW:=hid (BW.out.trans (hb.mono BW.out.size))
      replace HU:=hid (HU.out.keep hb)
      replace V9:=hid (V9.out.keep hb)
      clear M4 HM1
      (try go_wp2_with fail)
      refine hK.out _ _ ⟨text8 HU.out,text8 V9.out,keepsT hb hS.2.2.1,range_keep hS.2.2.2.1 hb,hS.2.2.2.2.keep hb⟩ (fun hS2=>?_)
      clear hK K1 hb hS
      have hS:=hS2
      clear hS2
      try simp only [Act.put,Take.nm]
      refine Take.tk 32 120 hS ?_
      refine Take.tk 33 121 hS ?_
      try simp only [Act.put,Take.nm]
      refine wpAnyH_ready (rs:=[34]) (by kernel_rfl) (by simp) ?_
      refine AllReadyH.cons (o:=_) (by rfl) (fun K1 hK=>?_) AllReadyH.nil
      go_simp
      go_at_call 15
      refine (CL.out _ BW.out).mono ?_
      rintro e z ⟨rfl,hb⟩
      replace BW:=hid (BW.out.trans (hb.mono BW.out.size))
      replace HU:=hid (HU.out.keep hb)
      replace V9:=hid (V9.out.keep hb)
      (try go_wp2_with fail)
      refine hK.out _ _ ⟨text8 HU.out,text8 V9.out,keepsT hb hS.2.2.1,range_keep hS.2.2.2.1 hb,hS.2.2.2.2.keep hb⟩ (fun hS2=>?_)
      clear hK K1 hb hS
      have hS:=hS2
      clear hS2
      try simp only [Act.put,Take.nm]
      refine Take.tk 35 123 hS ?_
      refine Take.tk 36 4 hS ?_
      try simp only [Act.put,Take.nm]
      refine wpAnyH_done (by kernel_rfl) ?_ _
      refine NoPanic.normal ?_
      go_wp2_with fail
      go_ret
      exact ⟨rfl,HW.out _ BW.out⟩
  · have hgf : g = false := by cases g <;> simp_all
    subst hgf
    clear hgt
    obtain ⟨rfl, rfl⟩ : EB = [] ∧ er = 1 := by
      have h:=HE.out
      rw [HG.out] at h
      simpa using h
    go_wp2_with (first
      | (have tok:=T0.out;refine load_m (HK.out _ BW.out).bq _ rfl rfl (by kernel_rfl) ?_;clear T0 tok)
      | (go_at_call 10;refine (CRG.out _ BW.out).mono ?_;rintro e z3 ⟨rfl,hb⟩;replace BW:=hid (BW.out.trans (hb.mono BW.out.size));clear hb)
      | (go_at_call 15;refine (CL.out _ BW.out).mono ?_;rintro e z4 ⟨rfl,hb⟩;replace BW:=hid (BW.out.trans (hb.mono BW.out.size));clear hb))
    go_ret
    exact ⟨rfl,HW.out _ BW.out⟩
end Msg
namespace Msg
open Go.RowKit Mem Segm Oct Att Seg PR Opn Upd Ntc Frm
open Go.Lib (hid)
theorem decG_lift {k:Int} {b:List Nat} {v:Value} {w wf w':World} {e:Ending} (hb:Below w.heap.size w wf) (h:DecG k b v wf e w'):DecG k b v w e w':=by
 obtain ⟨U,N,x0,x1,x2,h1,h2,h3,h4,h5⟩:=h
 exact ⟨U,N,x0,x1,x2,h1,h2,fun S s1 s2=>h3 S (fun j hj=>s1 j (Nat.le_trans hb.size hj)) (fun j h0 hj hl=>by
  rcases Nat.lt_or_ge j w.heap.size with h | h
  ·exact s2 j h0 hj h
  ·exact s1 j h),h4,hb.trans (h5.mono hb.size)⟩
theorem raw3 {b:List Nat} (hl:b.length≤4077) (hs:Small b):rawM 3 b=(⟨3,zeroO,zeroU,outN b⟩,if okN b then noN else ⟨1,2,[]⟩):=by
 have e0:rawM 3 b=(if ntcB b then (⟨3,zeroO,zeroU,ntcD b⟩,noN) else (⟨3,zeroO,zeroU,noN⟩,⟨1,2,[]⟩)):=rfl
 rw [e0]
 unfold outN
 match b,hl,hs with
 | [],_,_=>rw [Ntc.ok_nil];rfl
 | [a],_,_=>rw [Ntc.ok_one];rfl
 | a :: c :: d,hl,hs =>
  have ha:a<256:=hs a List.mem_cons_self
  have hc:c<256:=hs c (List.mem_cons_of_mem _ List.mem_cons_self)
  simp only [List.length_cons] at hl
  rw [(Ntc.read_two a c d).1,Ntc.ok_two]
  by_cases h:a=0
  ·subst h
   rfl
  ·have h1:ntcB (a :: c :: d)=true:=decide_eq_true ⟨by simp,by simp [h],by simp only [List.length_cons];omega⟩
   have h2:goodN ⟨(a:Nat),(c:Nat),d⟩=true:=decide_eq_true ⟨by show (1:Int)≤(a:Int);omega,by show (a:Int)≤255;omega,by show (0:Int)≤(c:Int);omega,by show (c:Int)≤255;omega,by show d.length≤4075;omega⟩
   rw [h1,h2]
   rfl
theorem fault13 (s:Int) (w:World):Calls Tryz.prog 49 #[.int .i64 s] w (fun e w'=>e=.returned (.agg #[.int .i64 1,.int .i64 s,.slice none 0 0])∧Below w.heap.size w w'):=by
 have HB:=hid (box_low w (.int .i64 1) (.int .i64 s) (.slice none 0 0))
 go_enter Tryz.func49,Tryz.ntmps49
 go_wp2
 (try simp only [Exit.inBlock,Exit.then])
 refine bodyPost_ret (v:=.agg #[.int .i64 1,.int .i64 s,.slice none 0 0]) (by simp [results,Tryz.results49,go_sem]) rfl ?_
 exact ⟨rfl,HB.out⟩
def Met2 (k:Int) (b:List Nat) (w:World) (C D:Nat) (g:Bool) (W:World):Prop :=
 ∃ U N y0 y1 y2,RdSt w C D (rawM k b).1.kind (ocells (rawM k b).1.op) U N y0 y1 y2 W ∧
  (∀ S:Nat→Prop,(∀ j,w.heap.size+2≤j→S j)→Firm W S (fun W=>Msgs W (.agg (mcells (rawM k b).1.kind (ocells (rawM k b).1.op) U N).toArray) (rawM k b).1)) ∧
  ((g=true∧Note W (.agg #[y0,y1,y2]) (rawM k b).2)∨(g=false∧(rawM k b).2=⟨1,2,[]⟩))
theorem pdec13 (k:Int) (v:Value) (b:List Nat) (w:World) (hv:U8s w v b) (hl:b.length≤4077)
  (hO:k=1→∀ W,U8s W v b→Calls Tryz.prog 46 #[v] W (fun e w'=>∃ vn,e=.returned (.tuple #[.agg (ocells (outO (decO b)).1).toArray,vn])∧(outO (decO b)).1.ok∧Note w' vn (outO (decO b)).2∧Below W.heap.size W w'))
  (hU:k=2→∀ W,U8s W v b→Below w.heap.size w W→Calls Tryz.prog 47 #[v] W (DecU b W)):Calls Tryz.prog 20 #[.agg #[.int .i64 k,v]] w (DecG k b v w):=by
 obtain ⟨A0,n0,rfl,hc,hc2⟩:=hv.form
 have hR3:=fun (_:k=3)=>raw3 hl hv.2
 have LW:=hid ((Below.refl w.heap.size w).alloc (Nat.le_refl _) (.cells #[.int .i64 k,.slice A0 b.length n0] 53))
 have q0:(w.alloc (.cells #[.int .i64 k,.slice A0 b.length n0] 53)).cell? ⟨w.heap.size,0,none⟩=some (.int .i64 k):=by simp
 have q1:(w.alloc (.cells #[.int .i64 k,.slice A0 b.length n0] 53)).cell? ⟨w.heap.size,1,none⟩=some (.slice A0 b.length n0):=by simp
 have CN:=hid (fun W (h:U8s W (.slice A0 b.length n0) b)=>Ntc.decode_from _ b W h (by omega))
 have HU:=hid hU
 have HV:=hid (hv.keep LW.out)
 obtain ⟨wf,hwf⟩:∃ wf,w.alloc (.cells #[.int .i64 k,.slice A0 b.length n0] 53)=wf:=⟨_,rfl⟩
 rw [hwf] at LW q0 q1 HV
 have F0:=hid (fun W (h:Below wf.heap.size wf W)=>And.intro (keepsT h q0) (keepsT h q1))
 have HS:=hid (rd_start wf)
 clear hv q0 q1 hU
 unfold z19 z3 at HS
 obtain ⟨w1,hw1⟩:∃ w1,(wf.alloc (.cells #[.int .i64 0,.int .u32 0,.int .i64 0,.int .u32 0,.bool false,.slice none 0 0,.int .i64 0,.int .i64 0,.slice none 0 0,.int .u32 0,.int .u32 0,.int .u32 0,.int .u32 0,.int .u32 0,.slice none 0 0,.slice none 0 0,.int .i64 0,.int .i64 0,.slice none 0 0] 36)).alloc (.cells #[.int .i64 0,.int .i64 0,.slice none 0 0] 34)=w1:=⟨_,rfl⟩
 rw [hw1] at HS
 obtain ⟨c0,c1⟩:=F0.out w1 HS.out.2.2.1
 have HM:=hid (show BoxM (w1.alloc (.cells z19 36)) w1.heap.size 0 (ocells zeroO) zU zN from by have h1:=BoxM.new w1 36 0 (parts_z zeroO);rwa [← z19_is] at h1)
 have HL:=hid (box_msg w1 z19)
 unfold z19 at HM HL
 have P0:=hid (parts_z zeroO)
 have T1:=hid True.intro
 go_enter Tryz.func20,Tryz.ntmps20
 go_upto_region 3 with (first
  | (have tok:=T1.out;refine store_m HM.out (k2:=k) P0.out _ _ rfl rfl (by rfl) (by kernel_rfl) ?_;intro w3 hb ht;have HT:=hid ht;have B3:=hid hb;clear c0 c1;have BW:=hid (HS.out.2.2.1.trans ((ht.low (Nat.le_refl _) HL.out).mono HS.out.2.2.1.size));obtain ⟨c0,c1⟩:=F0.out w3 BW.out;have T2:=hid tok;have BN:=hid (Box3.new w3 34 (.int .i64 0) (.int .i64 0) (.slice none 0 0));have BL:=hid (box_low w3 (.int .i64 0) (.int .i64 0) (.slice none 0 0));clear T1 tok hb ht)
  | (have tok:=T2.out;refine store_b BN.out _ _ rfl rfl (by rfl) (by decide) (by kernel_rfl) ?_;intro w4 hb ht;have B4:=hid hb;have HT2:=hid ht;clear T2 tok hb ht c0 c1))
 have hsz3:w3.heap.size=w1.heap.size+1:=by rw [HT.out.size];simp
 have S1:=HS.out.2.2.2
 have BX:=hid (BW.out.trans ((HT2.out.low (Nat.le_refl _) BL.out).mono BW.out.size))
 have ST:=hid (show RdSt wf w1.heap.size w3.heap.size k (ocells zeroO) zU zN (.int .i64 0) (.int .i64 0) (.slice none 0 0) w4 from
  ⟨(((HS.out.1.keep HL.out).turned HT.out (by omega)).keep BL.out).turned HT2.out (by omega),box3_turned ((box3_turned (HS.out.2.1.keep HL.out) HT.out (by omega)).keep BL.out) HT2.out (by omega),(B3.out.keep BL.out).turned HT2.out (by omega),B4.out,BX.out,by omega,by omega,by omega⟩)
 obtain ⟨c0,c1⟩:=F0.out w4 BX.out
 clear HS HM HL HT B3 BW BN BL B4 HT2 BX hwf hw1 hsz3 S1
 generalize w3.heap.size=D at ST ⊢
 generalize w1.heap.size=C at ST ⊢
 go_upto_block 0 with fail
 go_cut [6] (fun s6 wx=>∃ g:Bool,s6=.bool g∧Hid (Met2 k b wf C D g wx))
 case first =>
  by_cases h1:k=1
  ·subst h1
   have HR:=hid (show rawM 1 b=(⟨1,(outO (decO b)).1,zeroU,noN⟩,(outO (decO b)).2) from rfl)
   have CO:=hid (hO rfl)
   generalize (outO (decO b)).1=o1 at HR CO
   generalize (outO (decO b)).2=n1 at HR CO
   have T1:=hid True.intro
   clear hO HU hR3
   go_wp2_with (first
    | (go_at_call 46;refine (CO.out _ (HV.out.keep ST.out.low)).mono ?_;rintro e x ⟨vn,rfl,hok,hn,hb⟩;obtain ⟨q1,q2,vd,rfl,hd⟩:=hn;obtain ⟨Ad,cd,rfl,-,-⟩:=hd.form;have HQ:=hid (And.intro hok (And.intro q1 q2));have HD:=hid hd;replace ST:=hid (ST.out.keep hb);clear hok q1 q2 hd hb)
    | (have tok:=T1.out;refine store_o ST.out.m (parts_z o1) _ _ rfl rfl rfl (by kernel_rfl) ?_;intro x2 hb ht;replace HD:=hid (u8_apart HD.out ST.out.m.no8 ht.block (Nat.le_of_eq ht.size.symm));replace ST:=hid (ST.out.setM hb ht);have T2:=hid tok;clear T1 tok hb ht)
    | (have tok:=T2.out;refine store_b ST.out.n _ _ rfl rfl rfl (by simp [Value.oneCell']) (by kernel_rfl) ?_;intro x3 hb ht;replace HD:=hid (u8_apart HD.out (ST.out.n.no8 (no8_i _) (no8_i _) (no8_s _ _ _)) ht.block (Nat.le_of_eq ht.size.symm));replace ST:=hid (ST.out.setN hb ht);clear T2 tok hb ht))
   go_meet
   refine ⟨_,rfl,hid ?_⟩
   unfold Met2
   rw [HR.out]
   exact ⟨zU,zN,_,_,_,ST.out,fun S _ W' _ _=>msgs_plain W' _ _ HQ.out.1,.inl ⟨rfl,HQ.out.2.1,HQ.out.2.2,_,rfl,HD.out⟩⟩
  by_cases h2:k=2
  ·subst h2
   have HR:=hid (show rawM 2 b=(⟨2,zeroO,(outU (decU b)).1,noN⟩,(outU (decU b)).2) from rfl)
   have CU:=hid (HU.out rfl)
   unfold DecU at CU
   generalize (outU (decU b)).1=u1 at HR CU
   generalize (outU (decU b)).2=n1 at HR CU
   have T1:=hid True.intro
   clear hO HU hR3
   go_wp2_with (first
    | (go_at_call 47;refine (CU.out _ (HV.out.keep ST.out.low) (LW.out.trans (ST.out.low.mono LW.out.size))).mono ?_;rintro e x ⟨vu,vn,rfl,hu,hn,hb⟩;obtain ⟨U2,rfl⟩:=updF_agg hu;obtain ⟨q1,q2,vd,rfl,hd⟩:=hn;obtain ⟨Ad,cd,rfl,-,-⟩:=hd.form;have HQ:=hid (And.intro q1 q2);have HD:=hid hd;have HF:=hid hu;have HP:=hid (parts_u (parts_z zeroO) hu);have HC:=hid (And.intro ST.out.m.lt ST.out.n.lt);have HW:=hid ST.out.low.size;replace ST:=hid (ST.out.keep hb);clear hu q1 q2 hd hb)
    | (have tok:=T1.out;refine store_u ST.out.m HP.out _ _ rfl rfl rfl (by kernel_rfl) ?_;intro x2 hb ht;replace HD:=hid (u8_apart HD.out ST.out.m.no8 ht.block (Nat.le_of_eq ht.size.symm));replace HF:=hid (HF.out.off (fun j hj=>ht.block j (by have:=HC.out.1;omega)) (Nat.le_of_eq ht.size.symm));replace ST:=hid (ST.out.setM hb ht);have T2:=hid tok;clear T1 tok hb ht)
    | (have tok:=T2.out;refine store_b ST.out.n _ _ rfl rfl rfl (by simp [Value.oneCell']) (by kernel_rfl) ?_;intro x3 hb ht;replace HD:=hid (u8_apart HD.out (ST.out.n.no8 (no8_i _) (no8_i _) (no8_s _ _ _)) ht.block (Nat.le_of_eq ht.size.symm));replace HF:=hid (HF.out.off (fun j hj=>ht.block j (by have:=HC.out.2;omega)) (Nat.le_of_eq ht.size.symm));replace ST:=hid (ST.out.setN hb ht);clear T2 tok hb ht))
   go_meet
   refine ⟨_,rfl,hid ?_⟩
   unfold Met2
   rw [HR.out]
   have hC:=ST.out.hC
   have hC2:=HC.out
   exact ⟨U2,zN,_,_,_,ST.out,fun S hS W' hk hs=>⟨U2,zN,rfl,HP.out,zeroO_ok,(updF_part HF.out (fun j h3 h4=>hk j h3 (hS j (by omega))) hs).upds,note_z W'⟩,.inl ⟨rfl,HQ.out.1,HQ.out.2,_,rfl,HD.out⟩⟩
  by_cases h3:k=3
  ·subst h3
   have HR:=hid (hR3 rfl)
   clear hO HU hR3 h1 h2
   unfold DecF2 at CN
   generalize outN b=n1 at HR CN
   generalize okN b=g at HR CN
   have T1:=hid True.intro
   go_wp2_with (first
    | (go_at_call 48;refine (CN.out _ (HV.out.keep ST.out.low)).mono ?_;rintro e x ⟨vn,rfl,hn,hb⟩;have HA:=hid hn;obtain ⟨⟨q1,q2,vd,rfl,hd⟩,-⟩:=hn;obtain ⟨Ad,cd,rfl,-,-⟩:=hd.form;have HP:=hid (parts_n zeroO (.int .i64 n1.code) (.int .i64 n1.sub) (.slice Ad n1.data.length cd) rfl rfl rfl (no8_i _) (no8_i _) (no8_s _ _ _));have HC:=hid (And.intro ST.out.m.lt ST.out.low.size);replace ST:=hid (ST.out.keep hb);clear q1 q2 hd hb)
    | (have tok:=T1.out;refine store_n ST.out.m HP.out _ _ rfl rfl rfl (by kernel_rfl) ?_;intro x2 hb ht;have HT:=hid ht;replace ST:=hid (ST.out.setM hb ht);clear T1 tok hb ht))
   go_meet
   refine ⟨_,rfl,hid ?_⟩
   unfold Met2
   rw [HR.out]
   have hC:=ST.out.hC
   have hC2:=HC.out
   refine ⟨zU,_,_,_,_,ST.out,fun S hS W' hk hs=>⟨zU,_,rfl,HP.out,zeroO_ok,upds_z W',HA.out.off (fun j h3 h4=>(hk j (by rw [HT.out.size];exact h3) (hS j (by omega))).trans (HT.out.block j (by omega))) (by rw [← HT.out.size];exact hs)⟩,?_⟩
   cases g
   ·exact .inr ⟨rfl,rfl⟩
   ·exact .inl ⟨rfl,note_z _⟩
  by_cases h4:k=4
  ·subst h4
   clear hO HU hR3 h1 h2 h3 CN
   by_cases hl2:b=[]
   ·have HR:=hid (show rawM 4 b=(⟨4,zeroO,zeroU,noN⟩,noN) from by show (if b=[] then _ else _)=_;rw [if_pos hl2])
    have z1:((b.length:Int) == 0)=true:=by rw [hl2];rfl
    clear hl2
    go_wp2_with fail
    go_meet
    refine ⟨_,rfl,hid ?_⟩
    unfold Met2
    rw [HR.out]
    exact ⟨zU,zN,_,_,_,ST.out,fun S _ W' _ _=>msgs_plain W' _ _ zeroO_ok,.inl ⟨rfl,note_z _⟩⟩
   ·have HR:=hid (show rawM 4 b=(⟨4,zeroO,zeroU,noN⟩,⟨1,2,[]⟩) from by show (if b=[] then _ else _)=_;rw [if_neg hl2])
    have z1:((b.length:Int) == 0)=false:=by have:=List.length_pos_iff.2 hl2;simp;omega
    clear hl2
    go_wp2_with fail
    go_meet
    refine ⟨_,rfl,hid ?_⟩
    unfold Met2
    rw [HR.out]
    exact ⟨zU,zN,_,_,_,ST.out,fun S _ W' _ _=>msgs_plain W' _ _ zeroO_ok,.inr ⟨rfl,rfl⟩⟩
  have HR:=hid (show rawM k b=(⟨k,zeroO,zeroU,noN⟩,⟨1,3,[]⟩) from by unfold rawM;rw [if_neg h1,if_neg h2,if_neg h3,if_neg h4])
  have y1:(k == 1)=false:=by simp [h1]
  have y2:(k == 2)=false:=by simp [h2]
  have y3:(k == 3)=false:=by simp [h3]
  have y4:(k == 4)=false:=by simp [h4]
  have T2:=hid True.intro
  have CF:=hid (fun W=>fault13 3 W)
  clear hO HU hR3 CN
  go_wp2_with (first
   | (go_at_call 49;refine (CF.out _).mono ?_;rintro e x ⟨rfl,hb⟩;replace ST:=hid (ST.out.keep hb);clear hb CF)
   | (have tok:=T2.out;refine store_b ST.out.n _ _ rfl rfl (by rfl) (by decide) (by kernel_rfl) ?_;intro x3 hb ht;replace ST:=hid (ST.out.setN hb ht);clear T2 tok hb ht))
  go_meet
  refine ⟨_,rfl,hid ?_⟩
  unfold Met2
  rw [HR.out]
  exact ⟨zU,zN,_,_,_,ST.out,fun S _ W' _ _=>msgs_plain W' _ _ zeroO_ok,.inl ⟨rfl,show (Lit.int .i64 1).wf=true by decide,show (Lit.int .i64 3).wf=true by decide,_,rfl,U8s.nil _⟩⟩
 case rest =>
 rename_i HKK
 obtain ⟨g,rfl,hm⟩:=hcut
 refine HKK _ _ ?_
 clear HKK ST hO HU hl hc hc2 hR3 CN HV c0 c1
 obtain ⟨U,N,y0,y1,y2,hst,hfirm,hn⟩:=hm.out
 have ST:=hid hst
 have HF:=hid (fun (_:(rawM k b).2.code=0) (S:Nat→Prop) (h1:∀ j,wf.heap.size+2≤j→S j) (_:∀ j,0<b.length→(Value.slice A0 b.length n0).ownBlock=some j→j<wf.heap.size→S j)=>hfirm S h1)
 clear hst hfirm hm F0
 cases g
 focus
  have hr:=(hn.resolve_left (fun h=>by cases h.1)).2
  have CF:=hid (fun W=>fault13 2 W)
  clear HF
  have T2:=hid True.intro
  have HC:=hid (And.intro ST.out.m.lt ST.out.n.lt)
  clear hn
  go_upto_region 16 with (first
   | (go_at_call 49;refine (CF.out _).mono ?_;rintro e x ⟨rfl,hb⟩;replace ST:=hid (ST.out.keep hb);clear hb CF)
   | (have tok:=T2.out;refine store_b ST.out.n _ _ rfl rfl (by rfl) (by decide) (by kernel_rfl) ?_;intro wc hb ht;replace ST:=hid (ST.out.setN hb ht);clear T2 tok hb ht))
  have HF:=hid (fun (hz:(rawM k b).2.code=0) (S:Nat→Prop) (_:∀ j,wf.heap.size+2≤j→S j) (_:∀ j,0<b.length→(Value.slice A0 b.length n0).ownBlock=some j→j<wf.heap.size→S j)=>show Firm wc S (fun W=>Msgs W (.agg (mcells (rawM k b).1.kind (ocells (rawM k b).1.op) U N).toArray) (rawM k b).1) from by rw [hr] at hz;cases hz)
  have HN:=hid (show Note wc (.agg #[.int .i64 1,.int .i64 2,.slice none 0 0]) (rawM k b).2 from by rw [hr];exact ⟨show (Lit.int .i64 1).wf=true by decide,show (Lit.int .i64 2).wf=true by decide,_,rfl,U8s.nil _⟩)
  clear hr HC y0 y1 y2
  generalize Value.int .i64 1=y0 at ST HN
  generalize Value.int .i64 2=y1 at ST HN
  generalize Value.slice none 0 0=y2 at ST HN
 rotate_left
 focus
  have HN:=hid (hn.resolve_right (fun h=>by cases h.1)).2
  clear hn
  go_upto_region 16 with fail
 rotate_left
 all_goals
  have HD:=hid (show decM k b=(if (rawM k b).2.code=0 then rawM k b else (zeroM,(rawM k b).2)) from rfl)
  generalize rawM k b=RM at ST HF HN HD
  obtain ⟨⟨k2,o2,u2,n2⟩,⟨cd,sb,dd⟩⟩:=RM
  dsimp only at ST HF HN HD
  obtain ⟨q1,q2,vd,e,hd⟩:=HN.out
  dsimp only at q1 q2 e hd
  injection e with e
  obtain ⟨rfl,rfl,rfl⟩:y0=.int .i64 cd∧y1=.int .i64 sb∧y2=vd:=by simpa using e
  obtain ⟨Ad,cdd,rfl,-,-⟩:=hd.form
  obtain ⟨c0',c1',c2'⟩:=ST.out.n.cells
  clear q1 q2 hd e
  have SD:=hid (ST.out.keep ((Below.refl _ wc).drew:Below wc.heap.size wc wc.drew))
  have hS:wc.drew.cell? ⟨D,0,none⟩=some (.int .i64 cd)∧wc.drew.cell? ⟨D,1,none⟩=some (.int .i64 sb)∧wc.drew.cell? ⟨D,2,none⟩=some (.slice Ad dd.length cdd)∧BoxM wc.drew C k2 (ocells o2) U N:=⟨keepsT ((Below.refl _ wc).drew:Below wc.heap.size wc wc.drew) c0',keepsT ((Below.refl _ wc).drew:Below wc.heap.size wc wc.drew) c1',keepsT ((Below.refl _ wc).drew:Below wc.heap.size wc wc.drew) c2',SD.out.m⟩
  by_cases hcd:cd=0
  ·have y1:(cd != 0)=false:=by simp [hcd]
   have HD2:=hid (show decM k b=(⟨k2,o2,u2,n2⟩,⟨cd,sb,dd⟩) from by rw [HD.out,if_pos hcd])
   have HZ:=hid hcd
   clear hcd HD
   go_upto_region 18 with fail
   clear c0' c1' c2'
   refine wp_region_noPanic ?_
   refine wp_region_held_drew (S:=fun w'=>w'.cell? ⟨D,0,none⟩=some (.int .i64 cd)∧w'.cell? ⟨D,1,none⟩=some (.int .i64 sb)∧w'.cell? ⟨D,2,none⟩=some (.slice Ad dd.length cdd)∧BoxM w' C k2 (ocells o2) U N) (by kernel_rfl) hS (fun h0=>?_)
   refine tk_m 0 55 _ hS (fun _ h=>h.2.2.2) ?_ SD.out.m.parts rfl rfl rfl rfl (by kernel_rfl) rfl (fun _ _ _ h=>h)
   refine Take.tk 1 56 hS ?_
   try simp only [Act.put,Take.nm]
   refine wpAnyH_ready (rs:=[2]) (by kernel_rfl) (by simp) ?_
   refine AllReadyH.cons (o:=_) (by rfl) (fun K1 hK=>?_) AllReadyH.nil
   rw [if_pos (by rfl)]
   refine wp_store_m SD.out.r1 SD.out.m.parts _ _ rfl rfl rfl ?_
   intro w5 hb ht
   have hC:=SD.out.hC
   refine hK.out _ _ ⟨(World.cell?_of_block (ht.block D (by have:=SD.out.low.size;omega))).trans hS.1,(World.cell?_of_block (ht.block D (by omega))).trans hS.2.1,(World.cell?_of_block (ht.block D (by omega))).trans hS.2.2.1,hS.2.2.2.turned ht (by omega)⟩ (fun h1=>?_)
   clear hK K1
   try simp only [Act.put,Take.nm]
   refine wpAnyH_ready (rs:=[3]) (by kernel_rfl) (by simp) ?_
   refine AllReadyH.cons (o:=_) (by rfl) (fun K1 hK=>?_) AllReadyH.nil
   rw [if_pos (by rfl)]
   refine wp_store_b (box3_turned SD.out.r2 ht (Nat.succ_ne_self _)) _ _ rfl rfl rfl (by simp [Value.oneCell']) ?_
   intro w6 hb2 ht2
   refine hK.out _ _ ⟨(World.cell?_of_block (ht2.block D (by omega))).trans ((World.cell?_of_block (ht.block D (by omega))).trans hS.1),(World.cell?_of_block (ht2.block D (by omega))).trans ((World.cell?_of_block (ht.block D (by omega))).trans hS.2.1),(World.cell?_of_block (ht2.block D (by omega))).trans ((World.cell?_of_block (ht.block D (by omega))).trans hS.2.2.1),(hS.2.2.2.turned ht (by omega)).turned ht2 (by omega)⟩ (fun h2=>?_)
   clear hK K1
   simp only [Act.put]
   refine wpAnyH_done (by kernel_rfl) ?_ _
   refine NoPanic.normal ?_
   have E:=hid (note_on ST.out HN.out ht ht2)
   go_wp2_with fail
   refine bodyPost_ret (res_two rfl rfl rfl (hb.turned ht2 (by omega)) hb2) rfl ?_
   refine decG_lift LW.out ?_
   unfold DecG
   rw [HD2.out]
   exact ⟨U,N,_,_,_,rfl,SD.out.m.parts,fun S h1 h2=>firm_on (HF.out HZ.out) ht ht2 S h1 h2,E.out.1,E.out.2⟩
  ·have y1:(cd != 0)=true:=by simp [hcd]
   have HD2:=hid (show decM k b=(zeroM,⟨cd,sb,dd⟩) from by rw [HD.out,if_neg hcd])
   clear hcd HD
   go_upto_region 17 with fail
   clear c0' c1' c2'
   refine wp_region_noPanic ?_
   refine wp_region_held_drew (S:=fun w'=>w'.cell? ⟨D,0,none⟩=some (.int .i64 cd)∧w'.cell? ⟨D,1,none⟩=some (.int .i64 sb)∧w'.cell? ⟨D,2,none⟩=some (.slice Ad dd.length cdd)∧BoxM w' C k2 (ocells o2) U N) (by kernel_rfl) hS (fun h0=>?_)
   refine Take.tk 0 53 hS ?_
   refine Take.tk 1 54 hS ?_
   try simp only [Act.put,Take.nm]
   refine wpAnyH_ready (rs:=[2]) (by kernel_rfl) (by simp) ?_
   refine AllReadyH.cons (o:=_) (by rfl) (fun K1 hK=>?_) AllReadyH.nil
   rw [if_pos (by rfl)]
   refine wp_store_m SD.out.r1 P0.out _ _ rfl rfl rfl ?_
   intro w5 hb ht
   have hC:=SD.out.hC
   refine hK.out _ _ ⟨(World.cell?_of_block (ht.block D (by have:=SD.out.low.size;omega))).trans hS.1,(World.cell?_of_block (ht.block D (by omega))).trans hS.2.1,(World.cell?_of_block (ht.block D (by omega))).trans hS.2.2.1,hS.2.2.2.turned ht (by omega)⟩ (fun h1=>?_)
   clear hK K1
   try simp only [Act.put,Take.nm]
   refine wpAnyH_ready (rs:=[3]) (by kernel_rfl) (by simp) ?_
   refine AllReadyH.cons (o:=_) (by rfl) (fun K1 hK=>?_) AllReadyH.nil
   rw [if_pos (by rfl)]
   refine wp_store_b (box3_turned SD.out.r2 ht (Nat.succ_ne_self _)) _ _ rfl rfl rfl (by simp [Value.oneCell']) ?_
   intro w6 hb2 ht2
   refine hK.out _ _ ⟨(World.cell?_of_block (ht2.block D (by omega))).trans ((World.cell?_of_block (ht.block D (by omega))).trans hS.1),(World.cell?_of_block (ht2.block D (by omega))).trans ((World.cell?_of_block (ht.block D (by omega))).trans hS.2.1),(World.cell?_of_block (ht2.block D (by omega))).trans ((World.cell?_of_block (ht.block D (by omega))).trans hS.2.2.1),(hS.2.2.2.turned ht (by omega)).turned ht2 (by omega)⟩ (fun h2=>?_)
   clear hK K1
   simp only [Act.put]
   refine wpAnyH_done (by kernel_rfl) ?_ _
   refine NoPanic.normal ?_
   have E:=hid (note_on ST.out HN.out ht ht2)
   go_wp2_with fail
   refine bodyPost_ret (res_two rfl rfl rfl (hb.turned ht2 (by omega)) hb2) rfl ?_
   refine decG_lift LW.out ?_
   unfold DecG
   rw [HD2.out]
   exact ⟨zU,zN,_,_,_,rfl,P0.out,fun S _ _ W' _ _=>msgs_plain W' _ _ zeroO_ok,E.out.1,E.out.2⟩
end Msg
namespace Msg
open Go.RowKit Mem Segm Oct Att PR Opn Upd Ntc Frm
open Go.Lib (hid)
theorem no_block (W:World) (i:Nat):W.cell? ⟨W.heap.size,i,none⟩=none:=by
 unfold World.cell?
 dsimp only
 rw [Array.getElem?_eq_none (Nat.le_refl _)]
theorem rr_begin {w x:World} {pv:Value} {P:List Pc} {n:No} {A2:Option Addr} {k2 c2:Nat} {qs:List Value} (hp:Pcs x pv P qs) (hd:U8s x (.slice A2 k2 c2) n.data) (h1:(Lit.int .i64 n.code).wf=true) (h2:(Lit.int .i64 n.sub).wf=true)
  (hb:Below (w.alloc (.cells #[.int .i64 0,.int .i64 0,.slice none 0 0] 34)).heap.size (w.alloc (.cells #[.int .i64 0,.int .i64 0,.slice none 0 0] 34)) x) :
  RrSt w pv P qs x.heap.size (.int .i64 n.code) (.int .i64 n.sub) (.slice A2 k2 c2) n [] none 0 (x.alloc (.cells #[.int .i64 n.code,.int .i64 n.sub,.slice A2 k2 c2] 34)):=by
 have hX:=Box3.new w 34 (.int .i64 0) (.int .i64 0) (.slice none 0 0)
 have hB:=box_low w (.int .i64 0) (.int .i64 0) (.slice none 0 0)
 have h5:=box_low x (.int .i64 n.code) (.int .i64 n.sub) (.slice A2 k2 c2)
 have hall:=hb.trans (h5.mono hb.size)
 have hbox:=Box3.new x 34 (.int .i64 n.code) (.int .i64 n.sub) (.slice A2 k2 c2)
 refine ⟨hX.keep hall,hB.trans (hall.mono hB.size),⟨[],⟨rfl,.inl ⟨rfl,rfl⟩⟩,Rows.nil _ _ _⟩,fun _ _ b off m c _ _ e=>(by cases e),fun W' hk hs=>?_⟩
 have hk2:∀ k,k<(x.alloc (.cells #[.int .i64 n.code,.int .i64 n.sub,.slice A2 k2 c2] 34)).heap.size→W'.heap[k]?=(x.alloc (.cells #[.int .i64 n.code,.int .i64 n.sub,.slice A2 k2 c2] 34)).heap[k]?:=fun k h1=>hk k h1 (fun e=>by cases e)
 exact ⟨pcs_hole (hp.keep h5) (no_block _) (fun k h1 _=>hk2 k h1) hs,⟨h1,h2,_,rfl,u8_hole (hd.keep h5) (no_block _) (fun k h1 _=>hk2 k h1) hs⟩,hbox.below (fun k hk3=>hk2 k (by subst hk3;simp))⟩
theorem pread13 (v:Value) (b:List Nat) (w:World) (hv:U8s w v b) (hl:b.length≤100000)
  (hDec:∀ (k:Int) (v:Value) (b:List Nat) (W:World),U8s W v b→b.length≤4077→Below w.heap.size w W→Calls Tryz.prog 20 #[.agg #[.int .i64 k,v]] W (DecG k b v W)):Calls Tryz.prog 18 #[v] w (ReadF (readM b) w):=by
 obtain ⟨A0,c,rfl,hc,hc2⟩:=hv.form
 have B1:=hid (box_low w (.int .i64 0) (.int .i64 0) (.slice none 0 0))
 have CP:=hid ((split_any (.slice A0 b.length c) b _ (hv.keep B1.out) hl).mono fun _ _ h=>h.pieces)
 have HB:=hid (pcs_bound b)
 have HW:=hid (pcs_wf b)
 have HR:=hid (show readM b=readL (pcs b).2.2 (pcs b).1 from rfl)
 clear B1 hv hc hc2
 unfold PiecesF at CP
 generalize readM b=RM at HR ⊢
 generalize (pcs b).1=P at CP HB HR
 generalize (pcs b).2.1=k0 at CP
 generalize (pcs b).2.2=n at CP HW HR
 obtain ⟨cd,sb,dd⟩:=n
 (try dsimp only at CP)
 go_enter Tryz.func18,Tryz.ntmps18
 go_wp2_with (go_at_call 45;refine (CP.out).mono ?_;rintro e x ⟨Ap,cp,A2,k2,c2x,rfl,hp,hU,hb⟩;obtain ⟨qs,hp⟩:=hp;have ST:=hid (rr_begin (n:=⟨cd,sb,dd⟩) (hp:Pcs _ _ _ qs) hU HW.out.1 HW.out.2 hb);clear hp hU hb)
 clear CP HW
 (try dsimp only at ST)
 generalize x.alloc (.cells #[.int .i64 cd,.int .i64 sb,.slice A2 k2 c2x] 34)=W0 at ST ⊢
 generalize x.heap.size=D at ST ⊢
 go_loopw [5,6,22] (fun v5 v6 v22 wx=>∃ (i k:Nat) (F:List Ms) (A:Option Addr) (ca:Nat),i≤P.length∧F.length≤i∧k≤i*5000∧v22=.int .i64 i∧v6=.int .i64 k∧v5=.slice A F.length ca∧Hid (RestM ⟨cd,sb,dd⟩ P i F k)∧Hid (RrSt w (.slice Ap P.length cp) P qs D (.int .i64 cd) (.int .i64 sb) (.slice A2 k2 c2x) ⟨cd,sb,dd⟩ F A ca wx)) (fun _ _ v22 _=>P.length - (intOf v22).toNat)
 case atStart=>exact ⟨0,0,[],none,0,Nat.zero_le _,Nat.le_refl _,Nat.le_refl _,rfl,rfl,rfl,hid restm_start,ST⟩
 case round =>
  obtain ⟨i,k,F,A,ca,hi,hF,hk,rfl,rfl,rfl,HS,ST⟩:=hrel
  by_cases hlt:P.length≤i
  ·have z1:¬ ((i:Int)<(P.length:Int)):=by omega
   have E:=hid (restm_end HS.out hlt)
   clear hlt HS
   obtain ⟨c0,c1,c2⟩:=ST.out.box.cells
   have ff:=ST.out.box.free
   obtain ⟨d0,d1,d2⟩:=ST.out.firm.now.2.2.cells
   obtain rfl:=HR.out.trans E.out
   go_wp2
   go_region
   go_wp2
   (try simp only [Exit.inBlock,Exit.then])
   have r0:=(ST.out.box.set0 (.int .i64 cd)).cells.1
   have r1:=((ST.out.box.set0 (.int .i64 cd)).set1 (.int .i64 sb)).cells.2.1
   have r2:=(ST.out.box.laid (.int .i64 cd) (.int .i64 sb) (.slice A2 k2 c2x)).cells.2.2
   unfold three at r2
   refine bodyPost_ret (v:=.tuple #[.slice A F.length ca,.int .i64 (k:Nat),.agg #[.int .i64 cd,.int .i64 sb,.slice A2 k2 c2x]]) (by simp [results,Tryz.results18,go_sem,r0,r1,r2]) rfl ?_
   exact (rr_end ST.out ST.out.firm.now.2.1).drew
  ·have hlt2:i<P.length:=by omega
   have z1:(i:Int)<(P.length:Int):=by omega
   have hPi:=List.getElem?_eq_getElem hlt2
   obtain ⟨hd1,hd2⟩:=HB.out.2 _ (List.getElem_mem hlt2)
   generalize P[i]=s at hPi hd1 hd2
   obtain ⟨t,d⟩:=s
   dsimp only at hd1 hd2
   obtain ⟨bp,off,xv,rfl,hbp,hc1,hc2,hud,hxq⟩:=ST.out.firm.now.1.at_ hPi
   dsimp only at hc1 hc2 hud
   obtain ⟨Ax,cx,rfl,-,-⟩:=hud.form
   have VD:=hid hud
   have HX:=hid hxq
   have HP:=hid hPi
   have HY:=hid ((Below.refl wr.heap.size wr).alloc (Nat.le_refl _) (.cells #[.int .i64 (t:Nat),.slice Ax d.length cx] 53))
   have f0:(wr.alloc (.cells #[.int .i64 (t:Nat),.slice Ax d.length cx] 53)).heap[wr.heap.size]?=some (.cells #[.int .i64 (t:Nat),.slice Ax d.length cx] 53 (0,0)):=heap_alloc_new _ _
   have f1:(wr.alloc (.cells #[.int .i64 (t:Nat),.slice Ax d.length cx] 53)).cell? ⟨wr.heap.size,0,none⟩=some (.int .i64 (t:Nat)):=by simp
   have f2:(wr.alloc (.cells #[.int .i64 (t:Nat),.slice Ax d.length cx] 53)).cell? ⟨wr.heap.size,1,none⟩=some (.slice Ax d.length cx):=by simp
   have CD:=hid hDec
   clear hud hxq hPi hlt hDec
   go_upto_region 7 with fail
   clear hc1 hc2
   generalize wr.alloc (.cells #[.int .i64 (t:Nat),.slice Ax d.length cx] 53)=y1 at HY f0 f1 f2 ⊢
   have F2:=hid f2
   have FL:=hid (show wr.heap.size<y1.heap.size from (Array.getElem?_eq_some_iff.1 f0).1)
   clear f0
   have T1:=hid True.intro
   go_upto_region 8 with (first
    | (go_at_call 20;refine (CD.out _ _ _ _ (VD.out.keep HY.out) hd2 (ST.out.low.trans (HY.out.mono ST.out.low.size))).mono ?_;rintro e u ⟨U,N,x0,x1,x2,rfl,hp,hf,hn,hb⟩;have DP:=hid hp;have FF:=hid (rr_firm ST.out HX.out VD.out HY.out.size hf);have HN:=hid hn;have QN:=hid (note_ones hn);have HU:=hid hb;have HM:=hid (rd_start u);obtain ⟨w3,hw3⟩:∃ w3,(u.alloc (.cells #[.int .i64 0,.int .u32 0,.int .i64 0,.int .u32 0,.bool false,.slice none 0 0,.int .i64 0,.int .i64 0,.slice none 0 0,.int .u32 0,.int .u32 0,.int .u32 0,.int .u32 0,.int .u32 0,.slice none 0 0,.slice none 0 0,.int .i64 0,.int .i64 0,.slice none 0 0] 36)).alloc (.cells #[.int .i64 0,.int .i64 0,.slice none 0 0] 34)=w3:=⟨_,rfl⟩;unfold z19 z3 at HM;rw [hw3] at HM;clear hp hf hn hb f1 f2 CD)
    | (have tok:=T1.out;refine store_m HM.out.1 DP.out _ _ rfl rfl rfl (by kernel_rfl) ?_;intro w4 hb4 ht4;have B4:=hid hb4;have H4:=hid ht4;have T2:=hid tok;clear T1 tok hb4 ht4)
    | (have tok:=T2.out;refine store_b (box3_turned HM.out.2.1 H4.out (Nat.succ_ne_self _)) _ _ rfl rfl rfl (fun z hz=>QN.out _ hz) (by kernel_rfl) ?_;intro wc hb5 ht5;have B5:=hid hb5;have H5:=hid ht5;clear T2 tok hb5 ht5))
   have hu:=HU.out.size
   have hfl:=FL.out
   have hys:=HY.out.size
   have hlow3:Below wr.heap.size wr w3:=HY.out.trans ((HU.out.trans (HM.out.2.2.1.mono HU.out.size)).mono HY.out.size)
   have MID:=hid (rr_mid (U0:=y1.heap.size) hlow3 HM.out.2.2.1 HM.out.1 HM.out.2.1 ⟨no8_i _,no8_i _,no8_s _ _ _⟩ (Nat.succ_ne_self _).symm ⟨by omega,.inr (Nat.le_refl _)⟩ ⟨by omega,.inr (Nat.le_succ _)⟩ HN.out FF.out B4.out H4.out B5.out H5.out)
   have hfr:wc.cell? ⟨wr.heap.size,1,none⟩=some (.slice Ax d.length cx) :=
    (World.cell?_of_block ((H5.out.block wr.heap.size (by omega)).trans ((H4.out.block wr.heap.size (by omega)).trans ((HM.out.2.2.1.block wr.heap.size (by omega)).trans (HU.out.block wr.heap.size hfl))))).trans F2.out
   have FR:=hid hfr
   clear hw3 hu hys hlow3 hfr HU HM F2 B4 H4 B5 H5 FF HN QN DP HY
   generalize u.heap.size+1=C at MID ⊢
   generalize u.heap.size=B at MID ⊢
   obtain ⟨B',C',U',N',x0',x1',x2',e1,e2,hB,hC,hN,hF2,hlow,hBy⟩:=MID.out
   injection e1 with e1
   injection e1 with e1
   injection e1 with e1 _ _
   subst e1
   injection e2 with e2
   injection e2 with e2
   injection e2 with e2 _ _
   subst e2
   have S6:=hid (ST.out.keep hlow)
   have HE1:=hid (fun hc=>restm_bad HS.out HP.out hc)
   have HE2:=hid (fun hc=>restm_more HS.out HP.out hc)
   have hown1:∀ j,(Value.slice A F.length ca).ownBlock=some j→j<wr.heap.size:=fun j e=>by
    obtain ⟨q,h1,-⟩:=ST.out.own
    exact (h1.lt j e).2
   have HO:=hid hown1
   have hlow2:=hlow.size
   clear MID HS hlow VD HX hown1 HP
   dsimp only at HE1 HE2
   generalize decM (t:Int) d=DM at *
   obtain ⟨⟨k3,o3,u3x,n3⟩,⟨cd2,sb2,dd2⟩⟩:=DM
   dsimp only at *
   have HB3:=hid hB
   have HC3:=hid hC
   have HN3:=hid hN
   have HF3:=hid hF2
   clear hB hC hN hF2
   obtain ⟨q1,q2,vd,e,hd⟩:=HN3.out
   dsimp only at q1 q2 e hd
   injection e with e
   obtain ⟨rfl,rfl,rfl⟩:x0'=.int .i64 cd2∧x1'=.int .i64 sb2∧x2'=vd:=by simpa using e
   obtain ⟨Ad,cdd,rfl,-,-⟩:=hd.form
   clear q1 q2 hd e
   by_cases hcd:cd2=0
   ·have y1:(cd2 != 0)=false:=by simp [hcd]
    have E:=hid (HE2.out hcd)
    obtain ⟨d0,d1,d2⟩:=HC3.out.cells
    clear HE1 HE2 hcd
    have hPb:=HB.out.1
    have w19:IntKind.i64.wrap (19+(d.length:Int))=19+(d.length:Int):=IntWalk.i64_in _ (by omega)
    have wd:IntKind.i64.wrap ((k:Int)+(19+(d.length:Int)))=(k:Int)+(19+(d.length:Int)):=IntWalk.i64_in _ (by omega)
    obtain ⟨i0,E0⟩:=elemMs
    obtain ⟨q,hrow,hrows⟩:=S6.out.own
    have HRW:=hid hrow
    have HRS:=hid hrows
    have HXX:=hid (show Below wc.heap.size wc (wc.alloc (.cells (mcells k3 (ocells o3) U' N').toArray 36)) from (Below.refl _ wc).alloc (Nat.le_refl _) _)
    clear hrow hrows
    have T1:=hid True.intro
    go_wp2_with (first
     | (have tok:=T1.out;refine load_m HB3.out _ rfl rfl (by kernel_rfl) ?_;have T2:=hid tok;clear T1 tok)
     | (have tok:=T2.out;refine wpList_plain rfl fun K1 hK=>?_;refine wp_build_one 39 rfl HB3.out.parts _ rfl rfl (fun hRow=>?_);refine hK _ _ ?_;have T3:=hid hRow;clear T2 tok hRow hK d0 d1 d2)
     | (have hRow:=T3.out;at_builtin;refine wpList_append_row rfl (.tmp 37) (.tmp 39) rfl E0 (w.heap.size+1) _ F.length q.flatten rfl (own_keep HRW.out HXX.out) _ 1 (mcells k3 (ocells o3) U' N') rfl hRow (HB3.out.parts.cells _) (by unfold maxLen;omega) (by omega) (Nat.le_trans S6.out.box.lt HXX.out.size) (F.length+1) rfl ?_;intro A' c' W' hown hg hat hb;have ST2:=hid (rr_more S6.out HXX.out HRS.out HF3.out hown hg hat hb);have fr2:W'.cell? ⟨wr.heap.size,1,none⟩=some (.slice Ax d.length cx):=(World.cell?_of_block (hg.block wr.heap.size (Nat.lt_of_lt_of_le (Nat.lt_of_le_of_lt hBy HB3.out.lt) HXX.out.size) (fun e=>by have:=HO.out wr.heap.size e.symm;omega))).trans (keepsT HXX.out FR.out);clear T3 hRow hown hg hat hb))
    go_roundw
    case rel=>exact ⟨i+1,k+19+d.length,_,A',c',by omega,by rw [List.length_append,List.length_singleton];omega,by omega,by go_num,by go_num,by rw [List.length_append,List.length_singleton],E,ST2⟩
    case measure=>simp [intOf];omega
   ·have y1:(cd2 != 0)=true:=by simp [hcd]
    have E:=hid (HE1.out hcd)
    obtain rfl:=HR.out.trans E.out
    obtain ⟨c0,c1,c2⟩:=S6.out.box.cells
    have ff:=S6.out.box.free
    obtain ⟨d0,d1,d2⟩:=HC3.out.cells
    clear HE1 HE2 hcd
    go_upto_region 9 with fail
    go_region
    go_wp2
    (try simp only [Exit.inBlock,Exit.then])
    have r0:=(S6.out.box.set0 (.int .i64 cd2)).cells.1
    have r1:=((S6.out.box.set0 (.int .i64 cd2)).set1 (.int .i64 sb2)).cells.2.1
    have r2:=(S6.out.box.laid (.int .i64 cd2) (.int .i64 sb2) (.slice Ad dd2.length cdd)).cells.2.2
    unfold three at r2
    refine bodyPost_ret (v:=.tuple #[.slice A F.length ca,.int .i64 (k:Nat),.agg #[.int .i64 cd2,.int .i64 sb2,.slice Ad dd2.length cdd]]) (by simp [results,Tryz.results18,go_sem,r0,r1,r2]) rfl ?_
    exact (rr_end S6.out HN3.out).drew
end Msg
namespace Msg
open Go.RowKit Mem Segm Oct Att Seg PR Opn Upd Ntc Frm
open Go.Lib (hid)
def BodW (m:Ms) (EB:List Nat) (er:Int):Prop:=(goodM m=false∧EB=[]∧er=1)∨(goodM m=true∧4077<(bodyM m).length∧EB=[]∧er=6)∨(goodM m=true∧(bodyM m).length≤4077∧EB=bodyM m∧er=0)
theorem smallU {u:Up} {v:Value} {W:World} (h:Upds W v u) (hg:goodU u=true):Small (encU u)∧Small (encA u.at_):=by
 obtain ⟨vg,vp,vc,vh,-,-,ha,-⟩:=h
 obtain ⟨g1,g2,g3⟩:=goodU_at hg
 have hs:=encA_small (goodR_of ha g3)
 refine ⟨?_,hs⟩
 unfold encU
 exact ((((big_small _ _).append (encs_small g1)).append (big_small _ _)).append hs).append (encs_small g2)
theorem body13 (m:Ms) {v0:Value} {W0:World} (h0:Msgs W0 v0 m) (hln:lens m.up.at_.path≤100000) (hl1:m.up.gone.length≤1000) (hl2:m.up.here.length≤1000) :
  ∃ EB er,BodW m EB er∧∀ v W,Msgs W v m→Shp W→Calls Tryz.prog 25 #[v] W (WrapF EB er W):=by
 obtain ⟨k,o,u,n⟩:=m
 obtain ⟨_,_,-,-,ho,hu,hn⟩:=h0
 dsimp only at ho hu hn hln hl1 hl2
 have hsm:goodU u=true→Small (encU u)∧Small (encA u.at_):=fun hg=>smallU hu hg
 have hns:Small n.data:=by obtain ⟨-,-,vd,-,hd⟩:=hn;exact hd.2
 clear hu hn
 rcases (show k=1∨k=2∨k=3∨k=4∨(k≠1∧k≠2∧k≠3∧k≠4) by omega) with rfl | rfl | rfl | rfl | ⟨h1,h2,h3,h4⟩
 focus
  have hL:(encO o).length≤4077:=by unfold encO;split <;> simp [big_len]
  obtain ⟨EB,er,hW,hC⟩:∃ EB er,BodW ⟨1,o,u,n⟩ EB er∧∀ W,Calls Tryz.prog 55 #[.agg (ocells o).toArray] W (WrapF EB er W):=by
   cases hg:goodO o with
   | false =>
    refine ⟨[],1,.inl ⟨by simp [goodM,hg],rfl,rfl⟩,fun W=>(Opn.encode_any o W ho).mono fun e w' h=>?_⟩
    rw [hg] at h
    obtain ⟨h1,h2⟩:=h
    exact ⟨none,0,h1,U8s.nil _,h2⟩
   | true =>
    refine ⟨encO o,0,.inr (.inr ⟨by simp [goodM,hg],hL,rfl,rfl⟩),fun W=>(Opn.encode_any o W ho).mono fun e w' h=>?_⟩
    rw [hg] at h
    obtain ⟨A,c,h1,h2,h3⟩:=h
    exact ⟨A,c,h1,U8s.of_own h2 (Opn.encO_small o),h3⟩
  have CO:=hid hC
  have T1:=hid True.intro
  clear hC hL
 rotate_left
 focus
  obtain ⟨EB,er,hE,hC⟩:=uenc_all u hln hl1 hl2 hsm
  have hW:BodW ⟨2,o,u,n⟩ EB er:=by
   rcases hE with ⟨h1,h2⟩ | ⟨h1,h2⟩ | ⟨h1,h2⟩
   ·exact .inl ⟨by simp [goodM,h1],h2⟩
   ·exact .inr (.inl ⟨by simp [goodM,h1],h2⟩)
   ·exact .inr (.inr ⟨by simp [goodM,h1],h2⟩)
  have CU:=hid (fun v W (h:Upds W v u) (hS:Shp W)=>show Calls Tryz.prog 56 #[v] W (WrapF EB er W) from hC v W h hS)
  have T1:=hid True.intro
  clear hC hE
 rotate_left
 focus
  obtain ⟨EB,er,hE,hs,hl,hC⟩:=enc_all n hns
  have hW:BodW ⟨3,o,u,n⟩ EB er:=by
   rcases hE with ⟨h1,h2⟩ | ⟨h1,h2,h3⟩
   ·exact .inl ⟨by simp [goodM,h1],h2⟩
   ·subst h2
    exact .inr (.inr ⟨by simp [goodM,h1],hl,rfl,h3⟩)
  have CN:=hid (fun v W (h:Note W v n)=>(hC v W h).mono fun e w' ⟨A,c,h1,h2,h3⟩=>show WrapF EB er W e w' from ⟨A,c,h1,U8s.of_own h2 hs,h3⟩)
  have T1:=hid True.intro
  clear hC hE hs hl
 rotate_left
 focus
  obtain ⟨EB,er,hW,rfl,rfl⟩:∃ EB er,BodW ⟨4,o,u,n⟩ EB er∧EB=[]∧er=0:=⟨[],0,.inr (.inr ⟨by simp [goodM],Nat.zero_le _,rfl,rfl⟩),rfl,rfl⟩
 rotate_left
 focus
  have z1:(k == 1)=false:=by simp [h1]
  have z2:(k == 2)=false:=by simp [h2]
  have z3:(k == 3)=false:=by simp [h3]
  have z4:(k == 4)=false:=by simp [h4]
  obtain ⟨EB,er,hW,rfl,rfl⟩:∃ EB er,BodW ⟨k,o,u,n⟩ EB er∧EB=[]∧er=1:=⟨[],1,.inl ⟨by simp [goodM,h1,h2,h3,h4],rfl,rfl⟩,rfl,rfl⟩
 rotate_left
 all_goals
  refine ⟨_,_,hW,fun v w h hS=>?_⟩
  clear hW hsm hns hln hl1 hl2
  obtain ⟨U,N,rfl,hp,-,hu,hn⟩:=h
  dsimp only at hp hu hn ⊢
  first
   | (have tok:=CO;clear tok;have hb:=box_msg w (mcells 1 (ocells o) U N).toArray;have BX:=hid (BoxM.new w 36 1 hp))
   | (have tok:=CU;clear tok;have hb:=box_msg w (mcells 2 (ocells o) U N).toArray;have BX:=hid (BoxM.new w 36 2 hp))
   | (have tok:=CN;clear tok;have hb:=box_msg w (mcells 3 (ocells o) U N).toArray;have BX:=hid (BoxM.new w 36 3 hp))
   | (have tok:=z1;clear tok;have hb:=box_msg w (mcells k (ocells o) U N).toArray;have BX:=hid (BoxM.new w 36 k hp))
   | (have hb:=box_msg w (mcells 4 (ocells o) U N).toArray;have BX:=hid (BoxM.new w 36 4 hp))
  have HB:=hid hb
  have HU:=hid (hu.keep hb)
  have HN:=hid (hn.keep hb)
  have HS:=hid (hS.keep hb)
  have c0:=BX.out.c0
  clear hu hn hb hp hS
  go_enter Tryz.func25,Tryz.ntmps25
  go_wp2_with (first
   | (have tok:=T1.out;have tok2:=CO;clear tok2;refine load_o BX.out _ rfl rfl (by kernel_rfl) ?_;clear T1 tok)
   | (have tok:=T1.out;have tok2:=CU;clear tok2;refine load_u BX.out _ rfl rfl (by kernel_rfl) ?_;clear T1 tok)
   | (have tok:=T1.out;have tok2:=CN;clear tok2;refine load_n BX.out _ rfl rfl (by kernel_rfl) ?_;clear T1 tok)
   | (go_at_call 55;refine (CO.out _).mono ?_;rintro e x ⟨A1,c1,rfl,hu,hb⟩;have V1:=hid hu;have HB1:=hid (HB.out.trans (hb.mono HB.out.size));clear hu hb)
   | (go_at_call 56;refine (CU.out _ _ HU.out HS.out).mono ?_;rintro e x ⟨A1,c1,rfl,hu,hb⟩;have V1:=hid hu;have HB1:=hid (HB.out.trans (hb.mono HB.out.size));clear hu hb)
   | (go_at_call 57;refine (CN.out _ _ HN.out).mono ?_;rintro e x ⟨A1,c1,rfl,hu,hb⟩;have V1:=hid hu;have HB1:=hid (HB.out.trans (hb.mono HB.out.size));clear hu hb))
  go_ret2
  first
   | exact ⟨A1,c1,rfl,V1.out,HB1.out⟩
   | exact ⟨none,0,rfl,U8s.nil _,HB.out⟩
theorem penc13 (v:Value) (m:Ms) (w:World) (h:Msgs w v m) (hS:Shp w) (hln:lens m.up.at_.path≤100000) (hl1:m.up.gone.length≤1000) (hl2:m.up.here.length≤1000):Calls Tryz.prog 8 #[v] w (WrapF (encR m).1 (encR m).2 w):=by
 obtain ⟨EB,er,hW,hC⟩:=body13 m h hln hl1 hl2
 have HM:=hid h
 obtain ⟨U,N,rfl,hp,-⟩:=h
 have hb:=box_msg w (mcells m.kind (ocells m.op) U N).toArray
 have BX:=hid (BoxM.new w 36 m.kind hp)
 have HB:=hid hb
 have CB:=hid (hC _ _ (HM.out.keep hb) (hS.keep hb))
 clear hC hb hp HM hS
 obtain ⟨ER,hER⟩:∃ E,encR m=E:=⟨_,rfl⟩
 have hE:(er≠0∧ER=([],er))∨(er=0∧EB.length≤4077∧(1≤m.kind∧m.kind≤4)∧ER=(wrapB m.kind EB,0)):=by
  rw [← hER]
  unfold encR
  rcases hW with ⟨h1,rfl,rfl⟩ | ⟨h1,h2,rfl,rfl⟩ | ⟨h1,h2,rfl,rfl⟩
  ·exact .inl ⟨by decide,by rw [h1];rfl⟩
  ·exact .inl ⟨by decide,by rw [if_pos h1,if_pos h2]⟩
  ·refine .inr ⟨rfl,h2,?_,by rw [if_pos h1,if_neg (by omega)];rfl⟩
   rcases good_kind h1 with ⟨h,-⟩ | ⟨h,-⟩ | ⟨h,-⟩ | h <;> omega
 rw [hER]
 clear hER hW
 rcases hE with ⟨h1,rfl⟩ | ⟨rfl,h2,h3,rfl⟩
 ·have y1:(er != 0)=true:=by simp [h1]
  clear h1
  have T1:=hid True.intro
  go_enter Tryz.func8,Tryz.ntmps8
  go_wp2_with (first
   | (have tok:=T1.out;refine load_m BX.out _ rfl rfl (by kernel_rfl) ?_;clear T1 tok)
   | (go_at_call 25;refine CB.out.mono ?_;rintro e x ⟨A1,c1,rfl,-,hb⟩;have HB1:=hid (HB.out.trans (hb.mono HB.out.size));clear hb))
  go_ret2
  exact ⟨none,0,rfl,U8s.nil _,HB1.out⟩
 ·obtain ⟨E2,e2,hw,hC2⟩:=wrap_any m.kind EB (by omega)
  obtain ⟨rfl,rfl⟩:E2=wrapB m.kind EB∧e2=0:=by
   rcases hw with ⟨h,-⟩ | ⟨-,h,-⟩ | ⟨-,-,h⟩
   ·omega
   ·omega
   ·exact h
  have CW:=hid hC2
  clear hw hC2 h2 h3
  have T1:=hid True.intro
  go_enter Tryz.func8,Tryz.ntmps8
  go_wp2_with (first
   | (have tok:=T1.out;refine load_m BX.out _ rfl rfl (by kernel_rfl) ?_;clear T1 tok)
   | (go_at_call 25;refine CB.out.mono ?_;rintro e x ⟨A1,c1,rfl,hu,hb⟩;have V1:=hid hu;have HB1:=hid (HB.out.trans (hb.mono HB.out.size));have BX1:=hid (BX.out.keep hb);have c0:=BX1.out.c0;clear hu hb)
   | (go_at_call 26;refine (CW.out _ _ V1.out).mono ?_;rintro e x2 ⟨A2,c2,rfl,hu,hb⟩;have V2:=hid hu;have HB2:=hid (HB1.out.trans (hb.mono HB1.out.size));clear hu hb))
  go_ret2
  exact ⟨A2,c2,rfl,V2.out,HB2.out⟩
theorem keep13 (w:World):Calls Tryz.prog 41 #[] w (fun e w'=>∃ A c,e=.returned (.slice A 19 c)∧U8s w' (.slice A 19 c) (wrapB 4 [])∧Below w.heap.size w w'):=by
 have CW:=hid (fun W=>show Calls Tryz.prog 26 #[.int .i64 4,.slice none 0 0] W (fun e w'=>∃ A c,e=.returned (.tuple #[.slice A 19 c,.int .i64 0])∧U8s w' (.slice A 19 c) (wrapB 4 [])∧Below W.heap.size W w') from by
  obtain ⟨EB,er,h,hc⟩:=wrap_any 4 [] (by decide)
  rcases h with ⟨h,_⟩ | ⟨_,h,_⟩ | ⟨_,_,rfl,rfl⟩
  ·omega
  ·simp at h
  ·exact hc _ W (U8s.nil W))
 go_enter Tryz.func41,Tryz.ntmps41
 go_wp2_with (go_at_call 26;refine (CW.out _).mono ?_;rintro e x ⟨A1,c1,rfl,hu,hb⟩;have V1:=hid hu;have HB1:=hid hb;clear hu hb)
 go_ret
 exact ⟨A1,c1,rfl,V1.out,HB1.out⟩
end Msg
namespace Msg
open Go.RowKit Mem Segm Oct Att PR Opn Upd Ntc Frm
open Go.Lib (hid)
def liveM:Ms:=⟨4,zeroO,zeroU,noN⟩
theorem live_read:readM (wrapB 4 [])=([liveM],19,noN):=by rfl
theorem lives13_any (w:World) (hDec:∀ (k:Int) (v:Value) (b:List Nat) (W:World),U8s W v b→b.length≤4077→Below w.heap.size w W→Calls Tryz.prog 20 #[.agg #[.int .i64 k,v]] W (DecG k b v W)):Calls Tryz.prog 15 #[] w (Tells (.bool true) w):=by
 have CK:=hid (keep13 w)
 have CR:=hid (fun v W (h:U8s W v (wrapB 4 [])) (hb:Below w.heap.size w W)=>(pread13 v _ W h (by rw [wrapB_len];decide) (fun k v b W2 h1 h2 h3=>hDec k v b W2 h1 h2 (hb.trans (h3.mono hb.size)))).mono fun _ _ h2=>read_lit (live_read ▸ h2))
 unfold ReadL noN at CR
 dsimp only at CR
 simp only [List.length_singleton] at CR
 clear hDec
 go_enter Tryz.func15,Tryz.ntmps15
 go_upto_region 2 with (first
  | (go_at_call 41;refine CK.out.mono ?_;rintro e x ⟨A1,c1,rfl,hu,hb⟩;have V1:=hid hu;have HB:=hid hb;clear hu hb)
  | (go_at_call 18;refine (CR.out _ _ V1.out HB.out).mono ?_;rintro e y ⟨A2,c2,A3,k3,c3,rfl,hm,-,hb⟩;have hb2:=box_low y (.int .i64 0) (.int .i64 0) (.slice A3 k3 c3);have M2:=hid (hm.keep hb2);have X2:=hid (Box3.new y 34 (.int .i64 0) (.int .i64 0) (.slice A3 k3 c3));have HB2:=hid ((HB.out.trans (hb.mono HB.out.size)).trans (hb2.mono (HB.out.trans (hb.mono HB.out.size)).size));clear hm hb hb2))
 obtain ⟨b1,o1,U,N,rfl,hlt,hr,-,-⟩:=M2.out.at_ (k:=0) (m:=liveM) rfl
 have m0:=hr 0 (.int .i64 4) rfl
 rw [Nat.zero_mul,Nat.add_zero] at m0
 obtain ⟨p0,p1,p2⟩:=X2.out.cells
 clear hr M2 X2
 generalize y.alloc (.cells #[.int .i64 0,.int .i64 0,.slice A3 k3 c3] 34)=z at m0 p0 p1 p2 HB2 hlt ⊢
 go_wp2
 go_ret
 exact ⟨rfl,HB2.out⟩
end Msg
namespace Msg
open Go.RowKit Mem Segm Oct Att PR Opn Upd Ntc Frm
theorem pdec_all (w:World) (hS:Shp w) (k:Int) (v:Value) (b:List Nat) (W:World) (hv:U8s W v b) (hl:b.length≤4077) (hb:Below w.heap.size w W):Calls Tryz.prog 20 #[.agg #[.int .i64 k,v]] W (DecG k b v W) :=
 pdec13 k v b W hv hl (fun _ W2 h=>(Opn.decode_p v b W2 h (by omega)).mono fun e w' ⟨vn,h1,h2,h3⟩=>⟨vn,h1,out_ok hv.2,h2,h3⟩) (fun _ W2 h hb2=>Upd.udec_any v b W2 h (by omega) ((hS.keep hb).keep hb2))
theorem pread_all (w:World) (hS:Shp w) (v:Value) (b:List Nat) (W:World) (hv:U8s W v b) (hl:b.length≤100000) (hb:Below w.heap.size w W):Calls Tryz.prog 18 #[v] W (ReadF (readM b) W) :=
 pread13 v b W hv hl (fun k v b W2 h1 h2 h3=>pdec_all w hS k v b W2 h1 h2 (hb.trans (h3.mono hb.size)))
theorem lives_all (w:World) (hS:Shp w) (W:World) (hb:Below w.heap.size w W):Calls Tryz.prog 15 #[] W (Tells (.bool true) W) :=
 lives13_any W (fun k v b W2 h1 h2 h3=>pdec_all w hS k v b W2 h1 h2 (hb.trans (h3.mono hb.size)))
end Msg
end Go.Proofs.YtjfmompgkkdliaaGreatDoor
