/- Part of the proof. -/
import Derived.Test.YtjfmompgkkdliaaGreatDoorG13
import Derived.Test.YtjfmompgkkdliaaGreatDoorG09
import Derived.Test.YtjfmompgkkdliaaGreatDoorG03
import Derived.Test.YtjfmompgkkdliaaGreatDoorG12
import Derived.Lib.SmallJoins
set_option maxRecDepth 100000
set_option maxHeartbeats 40000000
namespace Go.Proofs.YtjfmompgkkdliaaGreatDoor
namespace Upd
open Go.ChangeShapes Go.WideShapes Go.ChangeAt Go.RowKit Go.Joins Mem Segm Oct Att PR
theorem trod_upd {H:Type} {enc:TypeId × Value→H} {W:World} {fuel:Nat} {c0 c1 c2 c3 c4 c5 c6 c7 c8 c9 c10:Value} {y:DataW H × List MemPlace}
  (hf:DataW.trod enc Tryz.prog W 0 (fun _=>true) true fuel 31 [c0,c1,c2,c3,c4,c5,c6,c7,c8,c9,c10]=some y) (hlt:∀ x∈y.2,x.block<W.heap.size):∃ u,Upds W (.agg #[c0,c1,c2,c3,c4,c5,c6,c7,c8,c9,c10]) u:=by
 obtain ⟨d,p⟩:=y
 obtain ⟨xs,n,_,hx,_,hl,hfs⟩:=DataW.trod_struct Tryz.underlying31 hf
 simp only [Prod.mk.injEq] at hx
 have hl3:xs.length=3:=hl
 have hin:∀ (i:Nat) (y:DataW H × List MemPlace),xs[i]?=some y→∀ z∈y.2,z.block<W.heap.size:=fun i y hy z hz=>hlt z (by rw [hx.2];exact List.mem_flatMap.2 ⟨y,List.mem_of_getElem? hy,hz⟩)
 obtain ⟨y0,e0⟩:∃ y,xs[0]?=some y:=⟨_,List.getElem?_eq_getElem (by omega)⟩
 have k0:DataW.trod enc Tryz.prog W 0 (fun _=>true) true n 25 [c0]=some y0:=(hfs 0 _ rfl).trans e0
 obtain ⟨y1,e1⟩:∃ y,xs[1]?=some y:=⟨_,List.getElem?_eq_getElem (by omega)⟩
 have k1:DataW.trod enc Tryz.prog W 0 (fun _=>true) true n 29 [c1,c2,c3,c4,c5,c6,c7,c8,c9]=some y1:=(hfs 1 _ rfl).trans e1
 obtain ⟨y2,e2⟩:∃ y,xs[2]?=some y:=⟨_,List.getElem?_eq_getElem (by omega)⟩
 have k2:DataW.trod enc Tryz.prog W 0 (fun _=>true) true n 25 [c10]=some y2:=(hfs 2 _ rfl).trans e2
 obtain ⟨lg,hg⟩:=PR.trod_pfxs k0 (hin 0 y0 e0)
 obtain ⟨a,ha⟩:=Att.trod_attrs k1 (hin 1 y1 e1)
 obtain ⟨lh,hh⟩:=PR.trod_pfxs k2 (hin 2 y2 e2)
 obtain ⟨h1,vp,vc,h2,h3⟩:=ha
 injection h2 with h2
 have q0:(⟨[c1,c2,c3,c4,c5,c6,c7,c8,c9]⟩:Array Value).toList=_:=congrArg Array.toList h2
 simp only [acells,List.cons.injEq,and_true] at q0
 obtain ⟨rfl,rfl,rfl,rfl,rfl,rfl,rfl,rfl,rfl⟩:=q0
 exact ⟨⟨lg,a,lh⟩,_,_,_,_,rfl,hg,⟨h1,_,_,rfl,h3⟩,hh⟩
end Upd
namespace Ntc
open Go.ChangeShapes Go.WideShapes Go.ChangeAt Go.RowKit Go.Joins Mem Oct Att
end Ntc
end Go.Proofs.YtjfmompgkkdliaaGreatDoor
