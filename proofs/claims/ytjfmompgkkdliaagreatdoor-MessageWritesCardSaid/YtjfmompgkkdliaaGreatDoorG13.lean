/- Part of the proof. -/
import Derived.Test.YtjfmompgkkdliaaGreatDoorG00
import Derived.Test.YtjfmompgkkdliaaGreatDoorG12
import Derived.Deep.SlicePairs
import Derived.Test.YtjfmompgkkdliaaGreatDoorG02
import Derived.WalkKit
import Derived.Deep.DeepHandedRow
import Derived.Lib.SmallJoins
import Derived.ChangeSlices
import Derived.OpenShut
import Derived.ProofKit
set_option maxRecDepth 100000
set_option maxHeartbeats 40000000
namespace Go.Proofs.YtjfmompgkkdliaaGreatDoor
namespace Seg
open Go.ChangeShapes Go.WideShapes Go.ChangeAt Go.RowKit Go.Joins Mem Segm
theorem segCells_of:∀ (j:Nat) (p:List Piece) (q:List Value) (u:Value),(segCells p q)[j]?=some u→∃ i,(j=i*2∧∃ s,p[i]?=some s∧u=.int .i64 s.1)∨(j=i*2+1∧i<p.length∧q[i]?=some u)
 | _,[],q,u,h=>by simp [segCells] at h
 | _,_ :: _,[],u,h=>by simp [segCells] at h
 | 0,s :: p,x :: q,u,h=>by
  simp [segCells] at h
  exact ⟨0,.inl ⟨rfl,s,rfl,h.symm⟩⟩
 | 1,s :: p,x :: q,u,h=>by
  simp [segCells] at h
  exact ⟨0,.inr ⟨rfl,by simp,by simp [h]⟩⟩
 | j+2,s :: p,x :: q,u,h=>by
  simp only [segCells,List.getElem?_cons_succ] at h
  obtain ⟨i,h1⟩:=segCells_of j p q u h
  refine ⟨i+1,?_⟩
  rcases h1 with ⟨h1,h2⟩ | ⟨h1,h2,h3⟩
  ·exact .inl ⟨by omega,by simpa using h2⟩
  ·exact .inr ⟨by omega,by simp;omega,by simpa using h3⟩
theorem trod_segs {H:Type} {enc:TypeId × Value→H} {W:World} {fuel:Nat} {y:Value} {x:DataW H × List MemPlace}
  (hf:DataW.trod enc Tryz.prog W 0 (fun _=>true) true fuel 26 [y]=some x) (hlt:∀ z∈x.2,z.block<W.heap.size):∃ l,Segs W y l:=by
 rcases Deep.open_slice_pairs Tryz.underlying26 Tryz.underlying108 (by kernel_rfl) rfl rfl (by kernel_rfl) (by kernel_rfl) hf with ⟨hcs,_⟩ | ⟨a,len,cap,m,n,V0,V1,D0,D1,P0,P1,hcs,_,hl,hm,hmm,hx,hc⟩
 ·injection hcs with hcs
  subst hcs
  exact ⟨[],[],⟨rfl,none,0,rfl,Nat.le_refl _,by decide,fun h=>absurd h (Nat.lt_irrefl 0)⟩,Nums32.nil W⟩
 ·injection hcs with hcs
  subst hcs
  subst hx
  simp only [if_true] at hmm
  subst hmm
  have hk:∀ i,∃ z:Int,i<m→V0 i=.int .i64 z:=fun i=>by
   by_cases hi:i<m
   ·obtain ⟨z,e,_,_⟩:=DataW.trod_int Tryz.underlying3 (hc i hi).2.2.1
    injection e with e
    exact ⟨z,fun _=>e⟩
   ·exact ⟨0,fun h=>absurd h hi⟩
  have hn:∀ i,∃ l:List Nat,i<m→U32s W (V1 i) l:=fun i=>by
   by_cases hi:i<m
   ·obtain ⟨l,h⟩:=Nums.trod_u32s (hc i hi).2.2.2 (fun z hz=>hlt z (List.mem_append.2 (.inr (List.mem_flatMap.2 ⟨i,List.mem_range.2 hi,List.mem_append.2 (.inr hz)⟩))))
    exact ⟨l,fun _=>h⟩
   ·exact ⟨[],fun h=>absurd h hi⟩
  obtain ⟨K,hK⟩:=Classical.axiomOfChoice hk
  obtain ⟨N,hN⟩:=Classical.axiomOfChoice hn
  have e1:((List.range len).map fun i=>((K i,N i):Piece)).length=len:=by simp
  refine ⟨(List.range len).map fun i=>(K i,N i),(List.range len).map V1,⟨?_,some a,m,by rw [e1],by rw [e1];exact hl,hm,fun h0=>?_⟩,by simp,fun i s x h1 h2=>?_⟩
  ·rw [segCells_len _ _ (by simp)]
  ·rw [e1] at h0
   obtain ⟨b,off,spot⟩:=a
   have hspot:spot=none:=by simpa [Addr.add] using World.cell?_spot (hc 0 (by omega)).1
   subst hspot
   refine ⟨b,off,rfl,hlt (.cell b off) (List.mem_append.2 (.inl (MemPlace.mem_row.2 ⟨0,by omega,by simp⟩))),fun j u hj=>?_⟩
   obtain ⟨i,hi⟩:=segCells_of j _ _ u hj
   rcases hi with ⟨rfl,s,hs,rfl⟩ | ⟨rfl,_,hs⟩
   ·have hil:i<len:=by
     have:=(List.getElem?_eq_some_iff.1 hs).1
     simpa using this
    have h3:=(hc i (by omega)).1
    rw [add_plain] at h3
    rw [h3,hK i (by omega)]
    rw [List.getElem?_map,List.getElem?_range hil] at hs
    injection hs with hs
    rw [← hs]
   ·have hil:i<len:=by
     have:=(List.getElem?_eq_some_iff.1 hs).1
     simpa using this
    have h3:=(hc i (by omega)).2.1
    rw [add_plain,← Nat.add_assoc] at h3
    rw [List.getElem?_map,List.getElem?_range hil] at hs
    injection hs with hs
    rw [← Nat.add_assoc,h3,← hs]
  ·have hil:i<len:=by
    have:=(List.getElem?_eq_some_iff.1 h1).1
    simpa using this
   rw [List.getElem?_map,List.getElem?_range hil] at h1 h2
   injection h1 with h1
   injection h2 with h2
   rw [← h1,← h2]
   exact hN i (by omega)
end Seg
namespace Att
open Go.ChangeShapes Go.WideShapes Go.ChangeAt Go.RowKit Go.Joins Mem Segm Oct
theorem nat32 {x:Int} (h:(Lit.int .u32 x).wf=true):∃ k:Nat,x=(k:Int)∧k<4294967296:=by
 have hb:=bounds_u32 h
 obtain ⟨k,rfl⟩:=Int.eq_ofNat_of_zero_le hb.1
 exact ⟨k,rfl,by omega⟩
theorem trod_attrs {H:Type} {enc:TypeId × Value→H} {W:World} {fuel:Nat} {c0 c1 c2 c3 c4 c5 c6 c7 c8:Value} {y:DataW H × List MemPlace}
  (hf:DataW.trod enc Tryz.prog W 0 (fun _=>true) true fuel 29 [c0,c1,c2,c3,c4,c5,c6,c7,c8]=some y) (hlt:∀ x∈y.2,x.block<W.heap.size):∃ a,Attrs W (.agg #[c0,c1,c2,c3,c4,c5,c6,c7,c8]) a:=by
 obtain ⟨d,p⟩:=y
 obtain ⟨xs,n,_,hx,_,hl,hfs⟩:=DataW.trod_struct Tryz.underlying29 hf
 simp only [Prod.mk.injEq] at hx
 have hl9:xs.length=9:=hl
 have hin:∀ (i:Nat) (y:DataW H × List MemPlace),xs[i]?=some y→∀ z∈y.2,z.block<W.heap.size:=fun i y hy z hz=>hlt z (by rw [hx.2];exact List.mem_flatMap.2 ⟨y,List.mem_of_getElem? hy,hz⟩)
 obtain ⟨y0,e0⟩:∃ y,xs[0]?=some y:=⟨_,List.getElem?_eq_getElem (by omega)⟩
 have k0:DataW.trod enc Tryz.prog W 0 (fun _=>true) true n 3 [c0]=some y0:=(hfs 0 _ rfl).trans e0
 obtain ⟨y1,e1⟩:∃ y,xs[1]?=some y:=⟨_,List.getElem?_eq_getElem (by omega)⟩
 have k1:DataW.trod enc Tryz.prog W 0 (fun _=>true) true n 3 [c1]=some y1:=(hfs 1 _ rfl).trans e1
 obtain ⟨y2,e2⟩:∃ y,xs[2]?=some y:=⟨_,List.getElem?_eq_getElem (by omega)⟩
 have k2:DataW.trod enc Tryz.prog W 0 (fun _=>true) true n 26 [c2]=some y2:=(hfs 2 _ rfl).trans e2
 obtain ⟨y3,e3⟩:∃ y,xs[3]?=some y:=⟨_,List.getElem?_eq_getElem (by omega)⟩
 have k3:DataW.trod enc Tryz.prog W 0 (fun _=>true) true n 22 [c3]=some y3:=(hfs 3 _ rfl).trans e3
 obtain ⟨y4,e4⟩:∃ y,xs[4]?=some y:=⟨_,List.getElem?_eq_getElem (by omega)⟩
 have k4:DataW.trod enc Tryz.prog W 0 (fun _=>true) true n 22 [c4]=some y4:=(hfs 4 _ rfl).trans e4
 obtain ⟨y5,e5⟩:∃ y,xs[5]?=some y:=⟨_,List.getElem?_eq_getElem (by omega)⟩
 have k5:DataW.trod enc Tryz.prog W 0 (fun _=>true) true n 22 [c5]=some y5:=(hfs 5 _ rfl).trans e5
 obtain ⟨y6,e6⟩:∃ y,xs[6]?=some y:=⟨_,List.getElem?_eq_getElem (by omega)⟩
 have k6:DataW.trod enc Tryz.prog W 0 (fun _=>true) true n 22 [c6]=some y6:=(hfs 6 _ rfl).trans e6
 obtain ⟨y7,e7⟩:∃ y,xs[7]?=some y:=⟨_,List.getElem?_eq_getElem (by omega)⟩
 have k7:DataW.trod enc Tryz.prog W 0 (fun _=>true) true n 22 [c7]=some y7:=(hfs 7 _ rfl).trans e7
 obtain ⟨y8,e8⟩:∃ y,xs[8]?=some y:=⟨_,List.getElem?_eq_getElem (by omega)⟩
 have k8:DataW.trod enc Tryz.prog W 0 (fun _=>true) true n 27 [c8]=some y8:=(hfs 8 _ rfl).trans e8
 obtain ⟨n0,g0,_,w0⟩:=DataW.trod_int Tryz.underlying3 k0
 obtain ⟨n1,g1,_,w1⟩:=DataW.trod_int Tryz.underlying3 k1
 obtain ⟨pa,hp⟩:=Seg.trod_segs k2 (hin 2 y2 e2)
 obtain ⟨n3,g3,_,w3⟩:=DataW.trod_int Tryz.underlying22 k3
 obtain ⟨n4,g4,_,w4⟩:=DataW.trod_int Tryz.underlying22 k4
 obtain ⟨n5,g5,_,w5⟩:=DataW.trod_int Tryz.underlying22 k5
 obtain ⟨n6,g6,_,w6⟩:=DataW.trod_int Tryz.underlying22 k6
 obtain ⟨n7,g7,_,w7⟩:=DataW.trod_int Tryz.underlying22 k7
 obtain ⟨cm,hc⟩:=Nums.trod_u32s k8 (hin 8 y8 e8)
 obtain ⟨m3,rfl,l3⟩:=nat32 w3
 obtain ⟨m4,rfl,l4⟩:=nat32 w4
 obtain ⟨m5,rfl,l5⟩:=nat32 w5
 obtain ⟨m6,rfl,l6⟩:=nat32 w6
 obtain ⟨m7,rfl,l7⟩:=nat32 w7
 injection g0 with g0
 injection g1 with g1
 injection g3 with g3
 injection g4 with g4
 injection g5 with g5
 injection g6 with g6
 injection g7 with g7
 subst g0 g1 g3 g4 g5 g6 g7
 exact ⟨⟨n0,n1,pa,m3,m4,m5,m6,m7,cm⟩,⟨w0,w1,l3,l4,l5,l6,l7⟩,_,_,rfl,hp,hc⟩
end Att
namespace PR
open Go.ChangeShapes Go.WideShapes Go.ChangeAt Go.RowKit Go.Joins Mem
theorem nat_of32 {x:Int} (h:(Lit.int .u32 x).wf=true):∃ k:Nat,x=(k:Int)∧k<4294967296:=by
 have hb:=bounds_u32 h
 obtain ⟨k,rfl⟩:=Int.eq_ofNat_of_zero_le hb.1
 exact ⟨k,rfl,by omega⟩
theorem pfx_cells {H:Type} {enc:TypeId × Value→H} {W:World} {n:Nat} {c0 c1:Value} {y0 y1:DataW H × List MemPlace} (h0:DataW.trod enc Tryz.prog W 0 (fun _=>true) true n 22 [c0]=some y0) (h1:DataW.trod enc Tryz.prog W 0 (fun _=>true) true n 3 [c1]=some y1):∃ p:Pf,p.ok∧[c0,c1]=pcell p:=by
 obtain ⟨k,e0,_,w0⟩:=DataW.trod_int Tryz.underlying22 h0
 obtain ⟨y,e1,_,w1⟩:=DataW.trod_int Tryz.underlying3 h1
 injection e0 with e0
 injection e1 with e1
 obtain ⟨m,rfl,hm⟩:=nat_of32 w0
 exact ⟨⟨m,y⟩,⟨hm,w1⟩,by rw [e0,e1];rfl⟩
theorem trod_pfxs {H:Type} {enc:TypeId × Value→H} {W:World} {fuel:Nat} {y:Value} {x:DataW H × List MemPlace}
  (hf:DataW.trod enc Tryz.prog W 0 (fun _=>true) true fuel 25 [y]=some x) (hlt:∀ z∈x.2,z.block<W.heap.size):∃ l,Pfxs W y l:=by
 obtain ⟨d,p⟩:=x
 have hC:Tryz.prog.cellsOf 67=2:=by kernel_rfl
 rcases Deep.open_slice Tryz.underlying25 hf with ⟨hcs,_⟩ | ⟨a,len,cap,m,n,D,Pl,hcs,_,hl,hm,hmm,hx,hc⟩
 ·injection hcs with hcs
  subst hcs
  exact ⟨[],⟨rfl,none,0,rfl,Nat.le_refl _,by decide,fun h=>absurd h (Nat.lt_irrefl 0)⟩,by simp [Oks]⟩
 ·injection hcs with hcs
  subst hcs
  simp only [if_true] at hmm
  subst hmm
  simp only [Prod.mk.injEq] at hx
  obtain ⟨rfl,rfl⟩:=hx
  rw [hC] at hc
  have hk:∀ i,∃ s:Pf,s.ok∧(i<m→W.cells? 0 (a.add (i*2)) 2=some (pcell s)):=fun i=>by
   by_cases hi:i<m
   ·obtain ⟨cs',h1,h2⟩:=hc i hi
    obtain ⟨y0,y1,n',_,_,k0,k1⟩:=trod_struct2 Tryz.underlying67 h2
    obtain ⟨_,hlen,_⟩:=World.cells?_some h1
    match cs',hlen,h1,k0,k1 with
    | [c0,c1],_,h1,k0,k1 =>
     have e1:Tryz.prog.cellsOf 3=1:=by kernel_rfl
     have e2:Tryz.prog.cellsOf 22=1:=by kernel_rfl
     simp only [e1,e2] at k0 k1
     obtain ⟨s,hs,e⟩:=pfx_cells k0 k1
     exact ⟨s,hs,fun _=>by rw [h1,e]⟩
   ·exact ⟨⟨0,0⟩,⟨by decide,by decide⟩,fun h=>absurd h hi⟩
  obtain ⟨S,hS⟩:=Classical.axiomOfChoice hk
  have el:((List.range len).map S).length=len:=by simp
  refine ⟨(List.range len).map S,⟨pcells_len _,some a,m,by rw [el],by rw [el];exact hl,hm,fun h0=>?_⟩,fun s hs=>?_⟩
  ·rw [el] at h0
   obtain ⟨b,off,spot⟩:=a
   have c0:=(World.cells?_some ((hS 0).2 (by omega))).2.2
   have hspot:spot=none:=by
    have h3:=c0 0 (by omega)
    have h4:W.cell? (Addr.add ⟨b,off,spot⟩ (0*2) |>.add 0)=some (.int .u32 (S 0).a):=h3
    simpa [Addr.add] using World.cell?_spot h4
   subst hspot
   refine ⟨b,off,rfl,hlt (.cell b off) (List.mem_append.2 (.inl (MemPlace.mem_row.2 ⟨0,by rw [hC];omega,by simp⟩))),fun j u hj=>?_⟩
   obtain ⟨i,s,r,rfl,hr4,hs,hu⟩:=pcells_of hj
   have hil:i<len:=by
    have:=(List.getElem?_eq_some_iff.1 hs).1
    simpa using this
   rw [List.getElem?_map,List.getElem?_range hil] at hs
   injection hs with hs
   have h3:=(World.cells?_some ((hS i).2 (by omega))).2.2 r hr4
   rw [add_plain,add_plain,hs,hu] at h3
   rw [← Nat.add_assoc]
   exact h3
  ·obtain ⟨i,hi,rfl⟩:=List.mem_map.1 hs
   exact (hS i).1
end PR
end Go.Proofs.YtjfmompgkkdliaaGreatDoor
