/- Part of the proof. -/
import Derived.Test.YtjfmompgkkdliaaGreatDoorH15
import Derived.Test.YtjfmompgkkdliaaGreatDoorH23
import Derived.ChangeSame
set_option maxRecDepth 100000
set_option maxHeartbeats 40000000
namespace Go.Proofs.YtjfmompgkkdliaaGreatDoor
namespace Att
open Go.ChangeShapes Go.WideShapes Go.ChangeAt Go.RowKit Go.Joins
theorem gShp : Tryz.prog.globalNamed "confluence/attr.shapes" = some 0 := by kernel_rfl
theorem tShp:(Tryz.prog.globals[0]?).map (·.type)=some 181:=by kernel_rfl
theorem c2Shp:Tryz.prog.cellsOf 180=2:=by kernel_rfl
theorem c1Shp:Tryz.prog.cellsOf 3=1:=by kernel_rfl
theorem shp_of {W : World} (h : laidMet Tryz.prog [("confluence/attr.shapes", Rows.laid_confluence_attr_shapes)] W) : Shp W := by
 obtain ⟨ps,⟨g',t',cs,fuel,p,q,hg',ht',hvar,hd,_,_⟩,_⟩:=h
 obtain rfl:=Option.some.inj (gShp.symm.trans hg')
 obtain rfl:=Option.some.inj (tShp.symm.trans ht')
 obtain ⟨xs,m,rfl,hx,hl,hxl,hf⟩:=DataW.trod_array Tryz.underlying181 hd
 have hxs:Rows.laid_confluence_attr_shapes=DataW.agg (xs.map (·.1)):=congrArg Prod.fst hx
 unfold Rows.laid_confluence_attr_shapes at hxs
 injection hxs with hxs
 rw [c2Shp] at hf
 intro k hk
 have h1:=hf k (by omega)
 have hy:(xs.map (·.1))[k]?=some (DataW.agg [.lit (.int .i64 (flagN k:Nat)),.lit (.int .i64 (wideN k:Nat))]):=by
  rw [← hxs]
  have hk2:k=0∨k=1∨k=2∨k=3∨k=4∨k=5∨k=6∨k=7∨k=8:=by omega
  rcases hk2 with rfl | rfl | rfl | rfl | rfl | rfl | rfl | rfl | rfl <;> rfl
 rw [List.getElem?_map] at hy
 obtain ⟨y,hy1,hy2⟩:=Option.map_eq_some_iff.1 hy
 rw [hy1] at h1
 obtain ⟨y0,y1,n,rfl,hl2,h2,h3⟩:=trod_struct2 Tryz.underlying180 h1
 dsimp only at hy2 h2 h3
 injection hy2 with hy2
 injection hy2 with ha hb
 injection hb with hb
 rw [c1Shp] at h2 h3
 obtain ⟨a,ea,rfl,_⟩:=DataW.trod_int Tryz.underlying3 h2
 obtain ⟨b,eb,rfl,_⟩:=DataW.trod_int Tryz.underlying3 h3
 injection ha with ha
 injection ha with _ ha
 injection hb with hb
 injection hb with _ hb
 subst ha hb
 have g1:cs[2*k]?=some (.int .i64 (flagN k:Nat)):=by
  have:=congrArg (·[0]?) ea
  simpa [List.getElem?_take,List.getElem?_drop,Nat.mul_comm] using this
 have g2:cs[2*k+1]?=some (.int .i64 (wideN k:Nat)):=by
  have:=congrArg (·[0]?) eb
  simpa [List.getElem?_take,List.getElem?_drop,Nat.mul_comm] using this
 exact ⟨by have:=World.var?_cell gShp hvar (2*k);rw [this];simpa using g1,by have:=World.var?_cell gShp hvar (2*k+1);rw [this];simpa using g2⟩
end Att
end Go.Proofs.YtjfmompgkkdliaaGreatDoor
