/- Part of the proof. -/
import Derived.Test.YtjfmompgkkdliaaGreatDoorH24
import Derived.Test.YtjfmompgkkdliaaGreatDoorH03
import Derived.Great.BuildSlice
open Go.Lib (hid)
set_option maxRecDepth 100000
set_option maxHeartbeats 40000000
namespace Go.Proofs.YtjfmompgkkdliaaGreatDoor
namespace Msg
open Go.RowKit Mem Oct Att Frm
open Go.Lib (hid)
def Firm (W:World) (S:Nat→Prop) (Φ:World→Prop):Prop:=∀ W',(∀ k,k<W.heap.size→S k→W'.heap[k]?=W.heap[k]?)→W.heap.size≤W'.heap.size→Φ W'
section
variable {W W':World} {S S':Nat→Prop} {Φ:World→Prop}
theorem Firm.now (h:Firm W S Φ):Φ W:=h W (fun _ _ _=>rfl) (Nat.le_refl _)
theorem Firm.keep (h:Firm W S Φ) (hb:Below W.heap.size W W'):Firm W' S Φ:=fun W2 hk hs=>h W2 (fun k hk2 hS=>(hk k (Nat.lt_of_lt_of_le hk2 hb.size) hS).trans (hb.block k hk2)) (Nat.le_trans hb.size hs)
theorem Firm.on (h:Firm W S Φ) (hk:∀ k,k<W.heap.size→S k→S' k∧W'.heap[k]?=W.heap[k]?) (hs:W.heap.size≤W'.heap.size):Firm W' S' Φ:=fun W2 hk2 hs2=>h W2 (fun k h1 h2=>(hk2 k (Nat.lt_of_lt_of_le h1 hs) (hk k h1 h2).1).trans (hk k h1 h2).2) (Nat.le_trans hs hs2)
end
theorem Msgs.len {W:World} {x:List Value} {m:Ms} (h:Msgs W (.agg x.toArray) m):x.length=19∧∀ v∈x,v.oneCell'=true:=by
 obtain ⟨U,N,h1,h2,-⟩:=h
 rw [agg_inj h1]
 exact ⟨mcells_len h2.lo h2.lu h2.ln,h2.cells _⟩
def Rows (S:Nat→Prop) (W:World) (v:Value) (p:List Ms) (q:List (List Value)):Prop:=q.length=p.length∧∀ (k:Nat) (x:List Value) (m:Ms),q[k]?=some x→p[k]?=some m→Firm W (fun j=>S j∧v.ownBlock≠some j) (fun W=>Msgs W (.agg x.toArray) m)
section
variable {S:Nat→Prop} {W W':World} {v:Value} {p p2:List Ms} {q q2:List (List Value)}
theorem Rows.keep (h:Rows S W v p q) (hb:Below W.heap.size W W'):Rows S W' v p q:=⟨h.1,fun k x m h1 h2=>(h.2 k x m h1 h2).keep hb⟩
theorem Rows.nil (S:Nat→Prop) (W:World) (v:Value):Rows S W v [] []:=⟨rfl,fun k x m h1 _=>by simp at h1⟩
theorem Rows.one {x:List Value} {m:Ms} (h:Firm W (fun j=>S j∧v.ownBlock≠some j) (fun W=>Msgs W (.agg x.toArray) m)):Rows S W v [m] [x] :=
 ⟨rfl,fun k x' m' h1 h2=>by
  match k,h1,h2 with
  | 0,h1,h2=>simp at h1 h2;subst h1 h2;exact h⟩
theorem Rows.append (h:Rows S W v p q) (h2:Rows S W v p2 q2):Rows S W v (p ++ p2) (q ++ q2):=by
 refine ⟨by simp [h.1,h2.1],fun k x m e1 e2=>?_⟩
 by_cases hk:k<q.length
 ·rw [List.getElem?_append_left hk] at e1
  rw [List.getElem?_append_left (by rw [← h.1];exact hk)] at e2
  exact h.2 k x m e1 e2
 ·rw [List.getElem?_append_right (by omega)] at e1
  rw [List.getElem?_append_right (by rw [← h.1];omega),← h.1] at e2
  exact h2.2 _ x m e1 e2
end
theorem flat_at:∀ (q:List (List Value)) (k j:Nat) (x:List Value) (v:Value),(∀ x∈q,x.length=19)→q[k]?=some x→x[j]?=some v→q.flatten[k*19+j]?=some v
 | [],k,j,x,v,_,h1,_=>by simp at h1
 | y :: q,0,j,x,v,_,h1,h2=>by
  have h3:y=x:=by simpa using h1
  subst h3
  rw [Nat.zero_mul,Nat.zero_add,List.flatten_cons,List.getElem?_append_left (List.getElem?_eq_some_iff.1 h2).1,h2]
 | y :: q,k+1,j,x,v,h,h1,h2=>by
  have h3:=h y List.mem_cons_self
  rw [List.flatten_cons,List.getElem?_append_right (by omega),h3,show (k+1)*19+j - 19=k*19+j by omega]
  exact flat_at q k j x v (fun z hz=>h z (List.mem_cons_of_mem _ hz)) (by simpa using h1) h2
def Msgl (W:World) (v:Value) (p:List Ms):Prop:=∃ q:List (List Value),Row W 19 v p.length q.flatten∧q.length=p.length∧∀ (k:Nat) (x:List Value) (m:Ms),q[k]?=some x→p[k]?=some m→Msgs W (.agg x.toArray) m
def OwnMsgl (S:Nat→Prop) (t:TypeId) (base:Nat) (W:World) (v:Value) (p:List Ms):Prop:=∃ q:List (List Value),W.ownsRow base t 19 v p.length q.flatten∧Rows S W v p q
section
variable {S:Nat→Prop} {W W':World} {v:Value} {p:List Ms} {t:TypeId} {base:Nat}
theorem Msgl.keep (h:Msgl W v p) (hb:Below W.heap.size W W'):Msgl W' v p:=let ⟨q,h1,h2,h3⟩:=h;⟨q,h1.keep hb,h2,fun k x m e1 e2=>(h3 k x m e1 e2).keep hb⟩
theorem OwnMsgl.keep (h:OwnMsgl S t base W v p) (hb:Below W.heap.size W W'):OwnMsgl S t base W' v p:=let ⟨q,h1,h2⟩:=h;⟨q,own_keep h1 hb,h2.keep hb⟩
theorem OwnMsgl.msgl (h:OwnMsgl S t base W v p):Msgl W v p:=let ⟨q,h1,h2⟩:=h;⟨q,Row.of_own h1,h2.1,fun k x m e1 e2=>(h2.2 k x m e1 e2).now⟩
theorem Msgl.form (h:Msgl W v p):∃ A c,v=.slice A p.length c∧p.length≤c∧c≤9223372036854775807:=by
 obtain ⟨q,⟨_,A,c,rfl,h1,h2,_⟩,_⟩:=h
 exact ⟨A,c,rfl,h1,h2⟩
theorem Msgl.at_ {A:Option Addr} {n c k:Nat} {m:Ms} (h:Msgl W (.slice A n c) p) (hk:p[k]?=some m) :
  ∃ b off U N,A=some ⟨b,off,none⟩∧b<W.heap.size∧W.rangeAt b (off+k*19) (mcells m.kind (ocells m.op) U N)∧Parts (ocells m.op) U N∧Msgs W (.agg (mcells m.kind (ocells m.op) U N).toArray) m:=by
 obtain ⟨q,⟨hl,A',c',e,hn,hc,hr⟩,hq,hm⟩:=h
 injection e with e1 e2 e3
 subst e1 e3
 have hlt:k<p.length:=(List.getElem?_eq_some_iff.1 hk).1
 obtain ⟨b,off,rfl,hb,hcell⟩:=hr (by omega)
 have hx:=List.getElem?_eq_getElem (show k<q.length by rw [hq];exact hlt)
 have h1:=hm k _ m hx hk
 have h2:=h1
 obtain ⟨U,N,e4,h3,-⟩:=h2
 have e5:=agg_inj e4
 have hlen:∀ x∈q,x.length=19:=fun x hx=>by
  obtain ⟨i,hi,rfl⟩:=List.getElem_of_mem hx
  exact (hm i _ _ (List.getElem?_eq_getElem hi) (List.getElem?_eq_getElem (by rw [← hq];exact hi))).len.1
 refine ⟨b,off,U,N,rfl,hb,fun j v hv=>?_,h3,by rw [← e5];exact h1⟩
 rw [Nat.add_assoc]
 exact hcell _ _ (flat_at q k j _ v hlen hx (by rw [e5];exact hv))
end
theorem OwnMsgl.off {S:Nat→Prop} {W W':World} {t:TypeId} {base B:Nat} {v:Value} {p:List Ms} (h:OwnMsgl S t base W v p) (hB:¬ S B) (hb:B<base) (hk:∀ k,k≠B→W'.heap[k]?=W.heap[k]?) (hs:W.heap.size≤W'.heap.size):OwnMsgl S t base W' v p:=by
 obtain ⟨q,h1,h2⟩:=h
 exact ⟨q,own_same2 h1 (fun g hg=>hk g (by have:=(h1.lt g hg).1;omega)),h2.1,fun k x m e1 e2=>(h2.2 k x m e1 e2).on (fun j _ hS=>⟨hS,hk j (fun e=>hB (by rw [← e];exact hS.1))⟩) hs⟩
theorem msgl_grown {S:Nat→Prop} {W X W':World} {t:TypeId} {base L M c':Nat} {v:Value} {A':Option Addr} {p p2:List Ms} {q q2:List (List Value)} (hX:Below W.heap.size W X) (hq:Rows S W v p q) (hq2:Rows S W v p2 q2)
  (hg:X.grownBy W' v.ownBlock) (hat:(Value.slice A' L c').ownBlock=v.ownBlock∨(Value.slice A' L c').ownBlock=some M) (hM:W.heap.size≤M) (hL:L=p.length+p2.length)
  (hown:W'.ownsRow base t 19 (.slice A' L c') L (q.flatten ++ q2.flatten)):OwnMsgl S t base W' (.slice A' L c') (p ++ p2):=by
 have hall:=hq.append hq2
 refine ⟨q ++ q2,by rw [List.flatten_append,List.length_append,← hL];exact hown,hall.1,fun k x m h1 h2=>(hall.2 k x m h1 h2).on (fun j hj hS=>⟨⟨hS.1,?_⟩,?_⟩) (Nat.le_trans hX.size hg.size)⟩
 ·rcases hat with h | h
  ·rw [h];exact hS.2
  ·rw [h]
   intro e
   injection e with e
   omega
 ·exact (hg.block j (Nat.lt_of_lt_of_le hj hX.size) (fun e=>hS.2 e.symm)).trans (hX.block j hj)
theorem row_msg (W:World) (x:List Value) (t:TypeId):Row (W.alloc (.cells x.toArray t)) 19 (.slice (some ⟨W.heap.size,0,none⟩) 1 1) 1 x∨x.length≠19:=by
 by_cases hx:x.length=19
 ·refine .inl ⟨by rw [hx],_,1,rfl,Nat.le_refl _,by decide,fun _=>⟨W.heap.size,0,rfl,by simp,fun j u hj=>?_⟩⟩
  have hb:=heap_alloc_new W (.cells x.toArray t)
  unfold World.cell?
  dsimp only
  rw [hb]
  simpa using hj
 ·exact .inr hx
section
variable {o:Oper} {a:Act} {w:World} {Q:Exit→Act→World→Prop} {K:Act→World→Prop} {k:Int} {O U N:List Value}
theorem wp_build_one (dd:Nat) (hd:o.dst=some dd) (hp:Parts O U N) (x:Operand) (ho:o.op=.buildSlice 46 1 #[(0,x)]) (hx:a.eval x=.agg (mcells k O U N).toArray)
  (h:Row (w.alloc (.cells (mcells k O U N).toArray 36)) 19 (.slice (some ⟨w.heap.size,0,none⟩) 1 1) 1 (mcells k O U N)→K (a.put (some dd) (.slice (some ⟨w.heap.size,0,none⟩) 1 1)) (w.alloc (.cells (mcells k O U N).toArray 36))):o.wp Tryz.prog a w K Q:=by
 rw [← hd] at h
 have hl:=mcells_len (k:=k) hp.lo hp.lu hp.ln
 have hsz:(Tryz.prog.info? 36).map (·.size)=some 19:=by kernel_rfl
 have hz:((Tryz.prog.info? 36).bind (·.zero)).isSome=true:=by kernel_rfl
 cases hie:Tryz.prog.info? 36 with
 | none=>simp [hie] at hsz
 | some ie =>
  simp only [hie,Option.map_some,Option.some.injEq,Option.bind_some] at hsz hz
  obtain ⟨z,hzz⟩:=Option.isSome_iff_exists.1 hz
  refine wp_buildSlice 46 36 1 #[(0,x)] ho _ ie z Tryz.underlying46 hie hzz (by rw [hsz];decide) (by rw [hsz];decide) ?_ (h ((row_msg w _ _).resolve_right (fun e=>e hl)))
  rw [hsz]
  have hf:=Great.fill_whole (s:=19) (by decide) [Value.agg (mcells k O U N).toArray] ((Array.range (1*19)).map (z.cells[· % z.cells.size]!)) (fun v hv=>by rw [List.mem_singleton.1 hv];simp [Value.cells,hl]) (by simp)
  simpa [hx,Value.cells] using hf
end
end Msg
end Go.Proofs.YtjfmompgkkdliaaGreatDoor
