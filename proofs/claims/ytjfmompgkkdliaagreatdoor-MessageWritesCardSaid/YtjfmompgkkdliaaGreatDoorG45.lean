/- Part of the proof. -/
import Derived.Test.YtjfmompgkkdliaaGreatDoorG14
import Derived.Test.YtjfmompgkkdliaaGreatDoorG43
import Derived.Test.YtjfmompgkkdliaaGreatDoorG27
set_option maxRecDepth 100000
set_option maxHeartbeats 40000000
namespace Go.Proofs.YtjfmompgkkdliaaGreatDoor
namespace Msg
open Go.ChangeShapes Go.WideShapes Go.ChangeAt Go.RowKit Go.Joins Mem Segm Oct Att PR Opn Upd Ntc Frm
theorem nat32 {x:Int} (h:(Lit.int .u32 x).wf=true):∃ k:Nat,x=(k:Int)∧k<4294967296:=by
 have hb:=bounds_u32 h
 obtain ⟨k,rfl⟩:=Int.eq_ofNat_of_zero_le hb.1
 exact ⟨k,rfl,by omega⟩
theorem list19 {α:Type} {cs:List α} (h:cs.length=19):∃ c0 c1 c2 c3 c4 c5 c6 c7 c8 c9 c10 c11 c12 c13 c14 c15 c16 c17 c18,cs=[c0,c1,c2,c3,c4,c5,c6,c7,c8,c9,c10,c11,c12,c13,c14,c15,c16,c17,c18]:=by
 match cs,h with
 | [c0,c1,c2,c3,c4,c5,c6,c7,c8,c9,c10,c11,c12,c13,c14,c15,c16,c17,c18],_=>exact ⟨c0,c1,c2,c3,c4,c5,c6,c7,c8,c9,c10,c11,c12,c13,c14,c15,c16,c17,c18,rfl⟩
theorem cells19:Tryz.prog.cellsOf 36=19:=by kernel_rfl
theorem trod_open {H:Type} {enc:TypeId × Value→H} {W:World} {fuel:Nat} {c0 c1 c2 c3:Value} {y:DataW H × List MemPlace}
  (hf:DataW.trod enc Tryz.prog W 0 (fun _=>true) true fuel 24 [c0,c1,c2,c3]=some y) (hlt:∀ x∈y.2,x.block<W.heap.size):∃ o:Opn.Op,o.ok∧[c0,c1,c2,c3]=ocells o:=by
 obtain ⟨d,p⟩:=y
 obtain ⟨xs,n,_,hx,_,hl,hfs⟩:=DataW.trod_struct Tryz.underlying24 hf
 simp only [Prod.mk.injEq] at hx
 have hln:xs.length=4:=hl
 have hin:∀ (i:Nat) (y:DataW H × List MemPlace),xs[i]?=some y→∀ z∈y.2,z.block<W.heap.size:=fun i y hy z hz=>hlt z (by rw [hx.2];exact List.mem_flatMap.2 ⟨y,List.mem_of_getElem? hy,hz⟩)
 obtain ⟨y0,e0⟩:∃ y,xs[0]?=some y:=⟨_,List.getElem?_eq_getElem (by omega)⟩
 have k0:DataW.trod enc Tryz.prog W 0 (fun _=>true) true n 22 [c0]=some y0:=(hfs 0 _ rfl).trans e0
 obtain ⟨y1,e1⟩:∃ y,xs[1]?=some y:=⟨_,List.getElem?_eq_getElem (by omega)⟩
 have k1:DataW.trod enc Tryz.prog W 0 (fun _=>true) true n 3 [c1]=some y1:=(hfs 1 _ rfl).trans e1
 obtain ⟨y2,e2⟩:∃ y,xs[2]?=some y:=⟨_,List.getElem?_eq_getElem (by omega)⟩
 have k2:DataW.trod enc Tryz.prog W 0 (fun _=>true) true n 22 [c2]=some y2:=(hfs 2 _ rfl).trans e2
 obtain ⟨y3,e3⟩:∃ y,xs[3]?=some y:=⟨_,List.getElem?_eq_getElem (by omega)⟩
 have k3:DataW.trod enc Tryz.prog W 0 (fun _=>true) true n 4 [c3]=some y3:=(hfs 3 _ rfl).trans e3
 obtain ⟨a,g0,_,w0⟩:=DataW.trod_int Tryz.underlying22 k0
 obtain ⟨h1,g1,_,w1⟩:=DataW.trod_int Tryz.underlying3 k1
 obtain ⟨r,g2,_,w2⟩:=DataW.trod_int Tryz.underlying22 k2
 obtain ⟨f,g3,_⟩:=DataW.trod_bool Tryz.underlying4 k3
 injection g0 with g0
 injection g1 with g1
 injection g2 with g2
 injection g3 with g3
 obtain ⟨a,rfl,ha⟩:=nat32 w0
 obtain ⟨r,rfl,hr⟩:=nat32 w2
 exact ⟨⟨a,h1,r,f⟩,⟨ha,w1,hr⟩,by rw [g0,g1,g2,g3];rfl⟩
theorem trod_notice {H:Type} {enc:TypeId × Value→H} {W:World} {fuel:Nat} {c0 c1 c2:Value} {y:DataW H × List MemPlace}
  (hf:DataW.trod enc Tryz.prog W 0 (fun _=>true) true fuel 34 [c0,c1,c2]=some y) (hlt:∀ x∈y.2,x.block<W.heap.size):∃ n,Note W (.agg #[c0,c1,c2]) n:=by
 obtain ⟨d,p⟩:=y
 obtain ⟨xs,n,_,hx,_,hl,hfs⟩:=DataW.trod_struct Tryz.underlying34 hf
 simp only [Prod.mk.injEq] at hx
 have hln:xs.length=3:=hl
 have hin:∀ (i:Nat) (y:DataW H × List MemPlace),xs[i]?=some y→∀ z∈y.2,z.block<W.heap.size:=fun i y hy z hz=>hlt z (by rw [hx.2];exact List.mem_flatMap.2 ⟨y,List.mem_of_getElem? hy,hz⟩)
 obtain ⟨y0,e0⟩:∃ y,xs[0]?=some y:=⟨_,List.getElem?_eq_getElem (by omega)⟩
 have k0:DataW.trod enc Tryz.prog W 0 (fun _=>true) true n 3 [c0]=some y0:=(hfs 0 _ rfl).trans e0
 obtain ⟨y1,e1⟩:∃ y,xs[1]?=some y:=⟨_,List.getElem?_eq_getElem (by omega)⟩
 have k1:DataW.trod enc Tryz.prog W 0 (fun _=>true) true n 3 [c1]=some y1:=(hfs 1 _ rfl).trans e1
 obtain ⟨y2,e2⟩:∃ y,xs[2]?=some y:=⟨_,List.getElem?_eq_getElem (by omega)⟩
 have k2:DataW.trod enc Tryz.prog W 0 (fun _=>true) true n 32 [c2]=some y2:=(hfs 2 _ rfl).trans e2
 obtain ⟨a,g0,_,w0⟩:=DataW.trod_int Tryz.underlying3 k0
 obtain ⟨b,g1,_,w1⟩:=DataW.trod_int Tryz.underlying3 k1
 obtain ⟨l,hl⟩:=trod_u8s k2 (hin 2 y2 e2)
 injection g0 with g0
 injection g1 with g1
 exact ⟨⟨a,b,l⟩,w0,w1,c2,by rw [g0,g1],hl⟩
theorem upds_cells {W:World} {U:List Value} {u:Up} (h:Upds W (.agg U.toArray) u):U.length=11∧(∀ v∈U,v.oneCell'=true)∧∀ v∈U,No8 v:=by
 obtain ⟨vg,vp,vc,vh,e,hg,ha,hh⟩:=h
 obtain ⟨Ag,cg,rfl,-,-⟩:=hg.form
 obtain ⟨Ah,ch,rfl,-,-⟩:=hh.form
 obtain ⟨-,vp',vc',e2,hp,hc⟩:=ha
 obtain ⟨Ap,cp,rfl,-,-⟩:=hp.form
 obtain ⟨Ac,cc,rfl,-,-,-,-⟩:=hc.open_
 have q0:=agg_inj (A:=[_,_,_,_,_,_,_,_,_]) (B:=[_,_,_,_,_,_,_,_,_]) e2
 simp only [List.cons.injEq,and_true] at q0
 obtain ⟨-,-,rfl,-,-,-,-,-,rfl⟩:=q0
 obtain rfl:=agg_inj (B:=[_,_,_,_,_,_,_,_,_,_,_]) e
 exact ⟨rfl,by simp [Value.oneCell'],no8_of (by rfl)⟩
theorem note_cells {W:World} {N:List Value} {n:No} (h:Note W (.agg N.toArray) n):N.length=3∧(∀ v∈N,v.oneCell'=true)∧∀ v∈N,No8 v:=by
 obtain ⟨-,-,vd,e,hd⟩:=h
 obtain ⟨A,c,rfl,-,-⟩:=hd.form
 obtain rfl:=agg_inj (B:=[_,_,_]) e
 exact ⟨rfl,by simp [Value.oneCell'],no8_of (by rfl)⟩
theorem msgs_of {W:World} {k:Int} {o:Opn.Op} {U N:List Value} {u:Up} {n:No} (ho:o.ok) (hu:Upds W (.agg U.toArray) u) (hn:Note W (.agg N.toArray) n):Msgs W (.agg (mcells k (ocells o) U N).toArray) ⟨k,o,u,n⟩ :=
 let ⟨u1,u2,u3⟩:=upds_cells hu
 let ⟨n1,n2,n3⟩:=note_cells hn
 ⟨U,N,rfl,⟨rfl,u1,n1,ones_o o,u2,n2,fun v hv=>hv.elim (fun h=>(parts_z o).n8 v (.inl h)) (fun h=>h.elim (u3 v) (n3 v))⟩,ho,hu,hn⟩
theorem trod_msg {H:Type} {enc:TypeId × Value→H} {W:World} {fuel:Nat} {cs:List Value} {y:DataW H × List MemPlace} (hl19:cs.length=19)
  (hf:DataW.trod enc Tryz.prog W 0 (fun _=>true) true fuel 36 cs=some y) (hlt:∀ x∈y.2,x.block<W.heap.size):∃ m,Msgs W (.agg cs.toArray) m:=by
 obtain ⟨c0,c1,c2,c3,c4,c5,c6,c7,c8,c9,c10,c11,c12,c13,c14,c15,c16,c17,c18,rfl⟩:=list19 hl19
 obtain ⟨d,p⟩:=y
 obtain ⟨xs,n,_,hx,_,hl,hfs⟩:=DataW.trod_struct Tryz.underlying36 hf
 simp only [Prod.mk.injEq] at hx
 have hln:xs.length=4:=hl
 have hin:∀ (i:Nat) (y:DataW H × List MemPlace),xs[i]?=some y→∀ z∈y.2,z.block<W.heap.size:=fun i y hy z hz=>hlt z (by rw [hx.2];exact List.mem_flatMap.2 ⟨y,List.mem_of_getElem? hy,hz⟩)
 obtain ⟨y0,e0⟩:∃ y,xs[0]?=some y:=⟨_,List.getElem?_eq_getElem (by omega)⟩
 have k0:DataW.trod enc Tryz.prog W 0 (fun _=>true) true n 3 [c0]=some y0:=(hfs 0 _ rfl).trans e0
 obtain ⟨y1,e1⟩:∃ y,xs[1]?=some y:=⟨_,List.getElem?_eq_getElem (by omega)⟩
 have k1:DataW.trod enc Tryz.prog W 0 (fun _=>true) true n 24 [c1,c2,c3,c4]=some y1:=(hfs 1 _ rfl).trans e1
 obtain ⟨y2,e2⟩:∃ y,xs[2]?=some y:=⟨_,List.getElem?_eq_getElem (by omega)⟩
 have k2:DataW.trod enc Tryz.prog W 0 (fun _=>true) true n 31 [c5,c6,c7,c8,c9,c10,c11,c12,c13,c14,c15]=some y2:=(hfs 2 _ rfl).trans e2
 obtain ⟨y3,e3⟩:∃ y,xs[3]?=some y:=⟨_,List.getElem?_eq_getElem (by omega)⟩
 have k3:DataW.trod enc Tryz.prog W 0 (fun _=>true) true n 34 [c16,c17,c18]=some y3:=(hfs 3 _ rfl).trans e3
 obtain ⟨k,g0,_,w0⟩:=DataW.trod_int Tryz.underlying3 k0
 obtain ⟨o,ho,eo⟩:=trod_open k1 (hin 1 y1 e1)
 obtain ⟨u,hu⟩:=Upd.trod_upd k2 (hin 2 y2 e2)
 obtain ⟨n,hn⟩:=trod_notice k3 (hin 3 y3 e3)
 injection g0 with g0
 have h:=msgs_of (k:=k) (U:=[c5,c6,c7,c8,c9,c10,c11,c12,c13,c14,c15]) (N:=[c16,c17,c18]) ho hu hn
 rw [← eo] at h
 rw [g0]
 exact ⟨_,h⟩
theorem open_msg {H:Type} {enc:TypeId × Value→H} {W:World} {base:Nat} {v:Value} {d:DataW H} {p:List MemPlace}
  (hv:Value.okWide Tryz.prog W .any base 36 v) (h:DataW.Trod enc Tryz.prog W 0 (fun _=>true) true 36 v d p) (hlt:∀ x∈p,x.block<W.heap.size):∃ m,Msgs W v m:=by
 obtain ⟨cs,rfl,hsz⟩:=okWide_struct Tryz.underlying36 hv
 obtain ⟨fuel,hf⟩:=h
 exact trod_msg (cs:=cs.toList) (y:=(d,p)) (by simpa using hsz.trans cells19) hf hlt
theorem trod_msgs {H:Type} {enc:TypeId × Value→H} {W:World} {fuel:Nat} {y:Value} {x:DataW H × List MemPlace}
  (hf:DataW.trod enc Tryz.prog W 0 (fun _=>true) true fuel 46 [y]=some x) (hlt:∀ z∈x.2,z.block<W.heap.size):∃ l,Msgl W y l:=by
 obtain ⟨d,p⟩:=x
 rcases Deep.open_slice Tryz.underlying46 hf with ⟨hcs,_⟩ | ⟨a,len,cap,m,n,D,Pl,hcs,_,hl,hm,hmm,hx,hc⟩
 ·injection hcs with hcs
  subst hcs
  exact ⟨[],[],⟨rfl,none,0,rfl,Nat.le_refl _,by decide,fun h=>absurd h (Nat.lt_irrefl 0)⟩,rfl,fun k x m h1 _=>by simp at h1⟩
 ·injection hcs with hcs
  subst hcs
  simp only [if_true] at hmm
  subst hmm
  simp only [Prod.mk.injEq] at hx
  obtain ⟨rfl,rfl⟩:=hx
  rw [cells19] at hc
  have hk:∀ i,∃ s:List Value × Ms,i<m→s.1.length=19∧W.cells? 0 (a.add (i*19)) 19=some s.1∧Msgs W (.agg s.1.toArray) s.2:=fun i=>by
   by_cases hi:i<m
   ·obtain ⟨cs',h1,h2⟩:=hc i hi
    obtain ⟨_,hlen,_⟩:=World.cells?_some h1
    obtain ⟨s,hs⟩:=trod_msg hlen h2 (fun z hz=>hlt z (List.mem_append.2 (.inr (List.mem_flatMap.2 ⟨i,List.mem_range.2 hi,hz⟩))))
    exact ⟨(cs',s),fun _=>⟨hlen,h1,hs⟩⟩
   ·exact ⟨([],zeroM),fun h=>absurd h hi⟩
  obtain ⟨S,hS⟩:=Classical.axiomOfChoice hk
  have el:((List.range len).map fun i=>(S i).2).length=len:=by simp
  have hq:∀ x∈(List.range len).map (fun i=>(S i).1),x.length=19:=fun x hx=>by
   obtain ⟨i,hi,rfl⟩:=List.mem_map.1 hx
   have:=List.mem_range.1 hi
   exact (hS i (by omega)).1
  refine ⟨(List.range len).map fun i=>(S i).2,(List.range len).map fun i=>(S i).1,⟨by rw [flat_len _ hq];simp,some a,m,by rw [el],by rw [el];exact hl,hm,fun h0=>?_⟩,by simp,fun i x s h1 h2=>?_⟩
  ·rw [el] at h0
   obtain ⟨b,off,spot⟩:=a
   have h19:=(hS 0 (by omega)).1
   have c0:=(World.cells?_some (hS 0 (by omega)).2.1).2.2
   have hspot:spot=none:=by
    have h3:=c0 0 (by omega)
    rw [List.getElem?_eq_getElem (by omega)] at h3
    simpa [Addr.add] using World.cell?_spot h3
   subst hspot
   refine ⟨b,off,rfl,hlt (.cell b off) (List.mem_append.2 (.inl (MemPlace.mem_row.2 ⟨0,by rw [cells19];omega,by simp⟩))),fun j u hj=>?_⟩
   have hjl:j<len*19:=by
    have:=(List.getElem?_eq_some_iff.1 hj).1
    rw [flat_len _ hq] at this
    simpa using this
   obtain ⟨i,r,rfl,hr,hi⟩:∃ i r,j=i*19+r∧r<19∧i<len:=⟨j / 19,j % 19,by omega,by omega,by omega⟩
   obtain ⟨q1,q2,-⟩:=hS i (by omega)
   have h3:=(World.cells?_some q2).2.2 r hr
   rw [add_plain,add_plain] at h3
   have h4:=flat_at _ i r (S i).1 ((S i).1[r]'(by omega)) hq (by rw [List.getElem?_map,List.getElem?_range hi];rfl) (List.getElem?_eq_getElem (by omega))
   rw [hj] at h4
   rw [← Nat.add_assoc,h3,List.getElem?_eq_getElem (by omega)]
   exact h4.symm
  ·have hil:i<len:=by
    have:=(List.getElem?_eq_some_iff.1 h1).1
    simpa using this
   rw [List.getElem?_map,List.getElem?_range hil] at h1 h2
   injection h1 with h1
   injection h2 with h2
   rw [← h1,← h2]
   exact (hS i (by omega)).2.2
theorem open_msgs {H:Type} {enc:TypeId × Value→H} {W:World} {base:Nat} {v:Value} {d:DataW H} {p:List MemPlace}
  (hv:Value.okWide Tryz.prog W .any base 46 v) (h:DataW.Trod enc Tryz.prog W 0 (fun _=>true) true 46 v d p) (hlt:∀ x∈p,x.block<W.heap.size):∃ l,Msgl W v l:=by
 obtain ⟨a0,len,cap,rfl⟩:=okWide_slice Tryz.underlying46 hv
 obtain ⟨fuel,hf⟩:=h
 exact trod_msgs (x:=(d,p)) (by simpa [Value.cells] using hf) hlt
end Msg
end Go.Proofs.YtjfmompgkkdliaaGreatDoor
