/- Part of the proof. -/
import Derived.Test.YtjfmompgkkdliaaGreatDoorH02
import Derived.WalkKit
import Derived.Deep.DeepHandedRow
import Derived.Lib.SmallJoins
import Derived.ChangeSlices
import Derived.OpenShut
import Derived.ProofKit
set_option maxRecDepth 100000
set_option maxHeartbeats 40000000
namespace Go.Proofs.YtjfmompgkkdliaaGreatDoor
namespace Oct
open Go.ChangeShapes Go.WideShapes Go.ChangeAt Go.RowKit Go.Joins Mem
theorem cells8T:Tryz.prog.cellsOf 5=1:=by kernel_rfl
theorem trod_u8s {H:Type} {enc:TypeId × Value→H} {W:World} {fuel:Nat} {y:Value} {x:DataW H × List MemPlace}
  (hf:DataW.trod enc Tryz.prog W 0 (fun _=>true) true fuel 32 [y]=some x) (hlt:∀ z∈x.2,z.block<W.heap.size):∃ l,U8s W y l:=by
 rcases open_ints Tryz.underlying32 Tryz.underlying5 cells8T hf with ⟨hcs,hx⟩ | ⟨a,len,cap,zs,hcs,_,hl,hm,hz,hx,hcell,hwz⟩
 ·injection hcs with hcs
  subst hcs
  exact ⟨[],U8s.nil W⟩
 ·injection hcs with hcs
  subst hcs
  subst hx
  simp only [if_true] at hz
  refine ⟨(zs.take len).map Int.toNat,?_,?_⟩
  ·have e1:((zs.take len).map Int.toNat).length=len:=by rw [List.length_map,List.length_take];omega
   refine ⟨by rw [cells8_len,Nat.mul_one],some a,cap,by rw [e1],by rw [e1];exact hl,hm,fun h0=>?_⟩
   rw [e1] at h0
   obtain ⟨b,off,spot⟩:=a
   have hspot:spot=none:=by simpa [Addr.add] using World.cell?_spot (hcell 0 (by omega))
   subst hspot
   refine ⟨b,off,rfl,hlt (.cell b off) (MemPlace.mem_row.2 ⟨0,by omega,by simp⟩),fun i x hi=>?_⟩
   unfold cells8 at hi
   rw [List.getElem?_map,List.getElem?_map] at hi
   cases hzi:(zs.take len)[i]? with
   | none=>rw [hzi] at hi;cases hi
   | some z =>
    rw [hzi] at hi
    injection hi with hi
    subst hi
    have hil:i<len:=by
     have:=(List.getElem?_eq_some_iff.1 hzi).1
     rw [List.length_take] at this
     omega
    have hzz:zs[i]?=some z:=by rwa [List.getElem?_take,if_pos hil] at hzi
    have h1:=hcell i (by omega)
    rw [add_plain] at h1
    have h2:=bounds_u8 (hwz z (List.mem_of_getElem? hzz))
    rw [h1,List.getD,hzz]
    simp only [Option.getD_some]
    congr 2
    omega
  ·intro n hn
   obtain ⟨z,hz,rfl⟩:=List.mem_map.1 hn
   have:=bounds_u8 (hwz z (List.mem_of_mem_take hz))
   omega
theorem open_u8s {H:Type} {enc:TypeId × Value→H} {W:World} {base:Nat} {v:Value} {d:DataW H} {p:List MemPlace}
  (hv:Value.okWide Tryz.prog W .any base 32 v) (h:DataW.Trod enc Tryz.prog W 0 (fun _=>true) true 32 v d p) (hlt:∀ x∈p,x.block<W.heap.size):∃ l,U8s W v l:=by
 obtain ⟨a0,len,cap,rfl⟩:=okWide_slice Tryz.underlying32 hv
 obtain ⟨fuel,hf⟩:=h
 exact trod_u8s (x:=(d,p)) hf hlt
end Oct
end Go.Proofs.YtjfmompgkkdliaaGreatDoor
