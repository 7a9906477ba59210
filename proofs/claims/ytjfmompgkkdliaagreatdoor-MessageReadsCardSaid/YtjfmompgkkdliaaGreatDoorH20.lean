/- Part of the proof. -/
import Derived.Test.YtjfmompgkkdliaaGreatDoorH08
import Derived.Test.YtjfmompgkkdliaaGreatDoorH10
import Derived.Test.YtjfmompgkkdliaaGreatDoorH19
import Derived.Test.YtjfmompgkkdliaaGreatDoorH01
import Derived.Deep.CutBlock
import Derived.Deep.DeepCutAuto
import Derived.Test.YtjfmompgkkdliaaGreatDoorH16
import Derived.Test.YtjfmompgkkdliaaGreatDoorH17
import Derived.Deep.RegionHeld3
open Go.Lib (hid)
set_option maxRecDepth 100000
set_option maxHeartbeats 40000000
namespace Go.Proofs.YtjfmompgkkdliaaGreatDoor
namespace Att
open Go.RowKit Mem Segm Oct Rise
structure NormSt (w:World) (x0 x1 x2 x3 x4 x5 x6 x7 x8 y0 y1 y2 y3 y4 y5 y6 y7 y8:Value) (W:World):Prop where
 b1:Box9 W w.heap.size 29 x0 x1 x2 x3 x4 x5 x6 x7 x8
 b2:Box9 W (w.heap.size+1) 29 (.int .i64 0) (.int .i64 0) (.slice none 0 0) (.int .u32 0) (.int .u32 0) (.int .u32 0) (.int .u32 0) (.int .u32 0) (.slice none 0 0)
 b3:Box9 W (w.heap.size+1+1) 29 y0 y1 y2 y3 y4 y5 y6 y7 y8
 low:Below w.heap.size w W
section
variable {w W W':World} {x0 x1 x2 x3 x4 x5 x6 x7 x8 y0 y1 y2 y3 y4 y5 y6 y7 y8:Value}
theorem NormSt.below (h:NormSt w x0 x1 x2 x3 x4 x5 x6 x7 x8 y0 y1 y2 y3 y4 y5 y6 y7 y8 W) (hb:Below W.heap.size W W'):NormSt w x0 x1 x2 x3 x4 x5 x6 x7 x8 y0 y1 y2 y3 y4 y5 y6 y7 y8 W' :=
 ⟨h.b1.keep hb,h.b2.keep hb,h.b3.keep hb,h.low.trans (hb.mono h.low.size)⟩
theorem box_far {B C i:Nat} {t:TypeId} {v:Value} (h:Box9 W B t x0 x1 x2 x3 x4 x5 x6 x7 x8) (hne:B≠C):Box9 (W.setCell ⟨C,i,none⟩ v) B t x0 x1 x2 x3 x4 x5 x6 x7 x8:=⟨(Go.RowKit.Below.heap_setCell _ _ _ _ hne).trans h.blk⟩
theorem Box9.set0 {B:Nat} {t:TypeId} (h:Box9 W B t y0 y1 y2 y3 y4 y5 y6 y7 y8) (v:Value):Box9 (W.setCell ⟨B,0,none⟩ v) B t v y1 y2 y3 y4 y5 y6 y7 y8:=⟨by rw [Go.Joins.block_setCell h.blk];rfl⟩
theorem NormSt.set0 (h:NormSt w x0 x1 x2 x3 x4 x5 x6 x7 x8 y0 y1 y2 y3 y4 y5 y6 y7 y8 W) (v:Value):NormSt w x0 x1 x2 x3 x4 x5 x6 x7 x8 v y1 y2 y3 y4 y5 y6 y7 y8 (W.setCell ⟨w.heap.size+1+1,0,none⟩ v) :=
 ⟨box_far h.b1 (by omega),box_far h.b2 (by omega),h.b3.set0 v,h.low.setCell (p:=⟨w.heap.size+1+1,0,none⟩) (by show w.heap.size≤w.heap.size+1+1;omega) _⟩
theorem Box9.set1 {B:Nat} {t:TypeId} (h:Box9 W B t y0 y1 y2 y3 y4 y5 y6 y7 y8) (v:Value):Box9 (W.setCell ⟨B,1,none⟩ v) B t y0 v y2 y3 y4 y5 y6 y7 y8:=⟨by rw [Go.Joins.block_setCell h.blk];rfl⟩
theorem NormSt.set1 (h:NormSt w x0 x1 x2 x3 x4 x5 x6 x7 x8 y0 y1 y2 y3 y4 y5 y6 y7 y8 W) (v:Value):NormSt w x0 x1 x2 x3 x4 x5 x6 x7 x8 y0 v y2 y3 y4 y5 y6 y7 y8 (W.setCell ⟨w.heap.size+1+1,1,none⟩ v) :=
 ⟨box_far h.b1 (by omega),box_far h.b2 (by omega),h.b3.set1 v,h.low.setCell (p:=⟨w.heap.size+1+1,1,none⟩) (by show w.heap.size≤w.heap.size+1+1;omega) _⟩
theorem Box9.set2 {B:Nat} {t:TypeId} (h:Box9 W B t y0 y1 y2 y3 y4 y5 y6 y7 y8) (v:Value):Box9 (W.setCell ⟨B,2,none⟩ v) B t y0 y1 v y3 y4 y5 y6 y7 y8:=⟨by rw [Go.Joins.block_setCell h.blk];rfl⟩
theorem NormSt.set2 (h:NormSt w x0 x1 x2 x3 x4 x5 x6 x7 x8 y0 y1 y2 y3 y4 y5 y6 y7 y8 W) (v:Value):NormSt w x0 x1 x2 x3 x4 x5 x6 x7 x8 y0 y1 v y3 y4 y5 y6 y7 y8 (W.setCell ⟨w.heap.size+1+1,2,none⟩ v) :=
 ⟨box_far h.b1 (by omega),box_far h.b2 (by omega),h.b3.set2 v,h.low.setCell (p:=⟨w.heap.size+1+1,2,none⟩) (by show w.heap.size≤w.heap.size+1+1;omega) _⟩
theorem Box9.set3 {B:Nat} {t:TypeId} (h:Box9 W B t y0 y1 y2 y3 y4 y5 y6 y7 y8) (v:Value):Box9 (W.setCell ⟨B,3,none⟩ v) B t y0 y1 y2 v y4 y5 y6 y7 y8:=⟨by rw [Go.Joins.block_setCell h.blk];rfl⟩
theorem NormSt.set3 (h:NormSt w x0 x1 x2 x3 x4 x5 x6 x7 x8 y0 y1 y2 y3 y4 y5 y6 y7 y8 W) (v:Value):NormSt w x0 x1 x2 x3 x4 x5 x6 x7 x8 y0 y1 y2 v y4 y5 y6 y7 y8 (W.setCell ⟨w.heap.size+1+1,3,none⟩ v) :=
 ⟨box_far h.b1 (by omega),box_far h.b2 (by omega),h.b3.set3 v,h.low.setCell (p:=⟨w.heap.size+1+1,3,none⟩) (by show w.heap.size≤w.heap.size+1+1;omega) _⟩
theorem Box9.set4 {B:Nat} {t:TypeId} (h:Box9 W B t y0 y1 y2 y3 y4 y5 y6 y7 y8) (v:Value):Box9 (W.setCell ⟨B,4,none⟩ v) B t y0 y1 y2 y3 v y5 y6 y7 y8:=⟨by rw [Go.Joins.block_setCell h.blk];rfl⟩
theorem NormSt.set4 (h:NormSt w x0 x1 x2 x3 x4 x5 x6 x7 x8 y0 y1 y2 y3 y4 y5 y6 y7 y8 W) (v:Value):NormSt w x0 x1 x2 x3 x4 x5 x6 x7 x8 y0 y1 y2 y3 v y5 y6 y7 y8 (W.setCell ⟨w.heap.size+1+1,4,none⟩ v) :=
 ⟨box_far h.b1 (by omega),box_far h.b2 (by omega),h.b3.set4 v,h.low.setCell (p:=⟨w.heap.size+1+1,4,none⟩) (by show w.heap.size≤w.heap.size+1+1;omega) _⟩
theorem Box9.set5 {B:Nat} {t:TypeId} (h:Box9 W B t y0 y1 y2 y3 y4 y5 y6 y7 y8) (v:Value):Box9 (W.setCell ⟨B,5,none⟩ v) B t y0 y1 y2 y3 y4 v y6 y7 y8:=⟨by rw [Go.Joins.block_setCell h.blk];rfl⟩
theorem NormSt.set5 (h:NormSt w x0 x1 x2 x3 x4 x5 x6 x7 x8 y0 y1 y2 y3 y4 y5 y6 y7 y8 W) (v:Value):NormSt w x0 x1 x2 x3 x4 x5 x6 x7 x8 y0 y1 y2 y3 y4 v y6 y7 y8 (W.setCell ⟨w.heap.size+1+1,5,none⟩ v) :=
 ⟨box_far h.b1 (by omega),box_far h.b2 (by omega),h.b3.set5 v,h.low.setCell (p:=⟨w.heap.size+1+1,5,none⟩) (by show w.heap.size≤w.heap.size+1+1;omega) _⟩
theorem Box9.set6 {B:Nat} {t:TypeId} (h:Box9 W B t y0 y1 y2 y3 y4 y5 y6 y7 y8) (v:Value):Box9 (W.setCell ⟨B,6,none⟩ v) B t y0 y1 y2 y3 y4 y5 v y7 y8:=⟨by rw [Go.Joins.block_setCell h.blk];rfl⟩
theorem NormSt.set6 (h:NormSt w x0 x1 x2 x3 x4 x5 x6 x7 x8 y0 y1 y2 y3 y4 y5 y6 y7 y8 W) (v:Value):NormSt w x0 x1 x2 x3 x4 x5 x6 x7 x8 y0 y1 y2 y3 y4 y5 v y7 y8 (W.setCell ⟨w.heap.size+1+1,6,none⟩ v) :=
 ⟨box_far h.b1 (by omega),box_far h.b2 (by omega),h.b3.set6 v,h.low.setCell (p:=⟨w.heap.size+1+1,6,none⟩) (by show w.heap.size≤w.heap.size+1+1;omega) _⟩
theorem Box9.set7 {B:Nat} {t:TypeId} (h:Box9 W B t y0 y1 y2 y3 y4 y5 y6 y7 y8) (v:Value):Box9 (W.setCell ⟨B,7,none⟩ v) B t y0 y1 y2 y3 y4 y5 y6 v y8:=⟨by rw [Go.Joins.block_setCell h.blk];rfl⟩
theorem NormSt.set7 (h:NormSt w x0 x1 x2 x3 x4 x5 x6 x7 x8 y0 y1 y2 y3 y4 y5 y6 y7 y8 W) (v:Value):NormSt w x0 x1 x2 x3 x4 x5 x6 x7 x8 y0 y1 y2 y3 y4 y5 y6 v y8 (W.setCell ⟨w.heap.size+1+1,7,none⟩ v) :=
 ⟨box_far h.b1 (by omega),box_far h.b2 (by omega),h.b3.set7 v,h.low.setCell (p:=⟨w.heap.size+1+1,7,none⟩) (by show w.heap.size≤w.heap.size+1+1;omega) _⟩
theorem Box9.set8 {B:Nat} {t:TypeId} (h:Box9 W B t y0 y1 y2 y3 y4 y5 y6 y7 y8) (v:Value):Box9 (W.setCell ⟨B,8,none⟩ v) B t y0 y1 y2 y3 y4 y5 y6 y7 v:=⟨by rw [Go.Joins.block_setCell h.blk];rfl⟩
theorem NormSt.set8 (h:NormSt w x0 x1 x2 x3 x4 x5 x6 x7 x8 y0 y1 y2 y3 y4 y5 y6 y7 y8 W) (v:Value):NormSt w x0 x1 x2 x3 x4 x5 x6 x7 x8 y0 y1 y2 y3 y4 y5 y6 y7 v (W.setCell ⟨w.heap.size+1+1,8,none⟩ v) :=
 ⟨box_far h.b1 (by omega),box_far h.b2 (by omega),h.b3.set8 v,h.low.setCell (p:=⟨w.heap.size+1+1,8,none⟩) (by show w.heap.size≤w.heap.size+1+1;omega) _⟩
end
theorem norm_new (w:World) (x0 x1 x2 x3 x4 x5 x6 x7 x8:Value):NormSt w x0 x1 x2 x3 x4 x5 x6 x7 x8 (.int .i64 0) (.int .i64 0) (.slice none 0 0) (.int .u32 0) (.int .u32 0) (.int .u32 0) (.int .u32 0) (.int .u32 0) (.slice none 0 0) (((w.alloc (.cells #[x0,x1,x2,x3,x4,x5,x6,x7,x8] 29)).alloc (.cells #[.int .i64 0,.int .i64 0,.slice none 0 0,.int .u32 0,.int .u32 0,.int .u32 0,.int .u32 0,.int .u32 0,.slice none 0 0] 29)).alloc (.cells #[.int .i64 0,.int .i64 0,.slice none 0 0,.int .u32 0,.int .u32 0,.int .u32 0,.int .u32 0,.int .u32 0,.slice none 0 0] 29)):=by
 obtain ⟨h1,h2,h3⟩:=two_boxes w 29 x0 x1 x2 x3 x4 x5 x6 x7 x8 (.int .i64 0) (.int .i64 0) (.slice none 0 0) (.int .u32 0) (.int .u32 0) (.int .u32 0) (.int .u32 0) (.int .u32 0) (.slice none 0 0)
 have e1:((w.alloc (.cells #[x0,x1,x2,x3,x4,x5,x6,x7,x8] 29)).alloc (.cells #[.int .i64 0,.int .i64 0,.slice none 0 0,.int .u32 0,.int .u32 0,.int .u32 0,.int .u32 0,.int .u32 0,.slice none 0 0] 29)).heap.size=w.heap.size+1+1:=by simp
 have h4:=Box9.new ((w.alloc (.cells #[x0,x1,x2,x3,x4,x5,x6,x7,x8] 29)).alloc (.cells #[.int .i64 0,.int .i64 0,.slice none 0 0,.int .u32 0,.int .u32 0,.int .u32 0,.int .u32 0,.int .u32 0,.slice none 0 0] 29)) 29 (.int .i64 0) (.int .i64 0) (.slice none 0 0) (.int .u32 0) (.int .u32 0) (.int .u32 0) (.int .u32 0) (.int .u32 0) (.slice none 0 0)
 rw [e1] at h4
 have hb:=(Below.refl _ ((w.alloc (.cells #[x0,x1,x2,x3,x4,x5,x6,x7,x8] 29)).alloc (.cells #[.int .i64 0,.int .i64 0,.slice none 0 0,.int .u32 0,.int .u32 0,.int .u32 0,.int .u32 0,.int .u32 0,.slice none 0 0] 29))).alloc (Nat.le_refl _) (.cells #[.int .i64 0,.int .i64 0,.slice none 0 0,.int .u32 0,.int .u32 0,.int .u32 0,.int .u32 0,.int .u32 0,.slice none 0 0] 29)
 exact ⟨h1.keep hb,h2.keep hb,h4,h3.trans (hb.mono h3.size)⟩
theorem segs_off {W W':World} {t:TypeId} {n:Nat} {v:Value} {p:List Piece} (h:OwnSegsF t n n W v p) (hk:∀ k,n≤k→W'.heap[k]?=W.heap[k]?) (hs:W.heap.size≤W'.heap.size):OwnSegsF t n n W' v p:=by
 obtain ⟨q,h1,h2,h3,h4⟩:=h
 refine ⟨q,?_,⟨h2.1,fun k s x hp hq=>?_⟩,h3,h4⟩
 ·obtain ⟨k1,k2⟩:=h1
  refine ⟨k1,?_⟩
  rcases k2 with k2 | ⟨g,cap,cur,hv,hg,hh,r⟩
  ·exact .inl k2
  ·exact .inr ⟨g,cap,cur,hv,hg,(hk g hg).trans hh,r⟩
 ·obtain ⟨⟨hl,A,c,rfl,hn,hc,hr⟩,hsm⟩:=h2.2 k s x hp hq
  refine ⟨⟨hl,A,c,rfl,hn,hc,fun h0=>?_⟩,hsm⟩
  obtain ⟨b,off,rfl,hlt,hcell⟩:=hr h0
  refine ⟨b,off,rfl,Nat.lt_of_lt_of_le hlt hs,fun i y hy=>?_⟩
  have hb:=h4 _ (List.mem_of_getElem? hq) b off _ c rfl h0
  have h5:=hcell i y hy
  have h6:=hk b hb
  unfold World.cell? at h5 ⊢
  simp only [h6]
  exact h5
theorem own_off {W W':World} {t:TypeId} {n size m:Nat} {v:Value} {xs:List Value} (h:W.ownsRow n t size v m xs) (hk:∀ k,n≤k→W'.heap[k]?=W.heap[k]?):W'.ownsRow n t size v m xs:=by
 obtain ⟨k1,k2⟩:=h
 refine ⟨k1,?_⟩
 rcases k2 with k2 | ⟨g,cap,cur,hv,hg,hh,r⟩
 ·exact .inl k2
 ·exact .inr ⟨g,cap,cur,hv,hg,(hk g hg).trans hh,r⟩
theorem off_set {W:World} {B i n:Nat} (v:Value) (h:B<n):∀ k,n≤k→(W.setCell ⟨B,i,none⟩ v).heap[k]?=W.heap[k]?:=fun k hk=>Go.RowKit.Below.heap_setCell _ _ _ _ (by show k≠B;omega)
theorem wrap64_small {n:Int} (h0:0≤n) (h1:n<4611686018427387904):wrap64 n=n:=by
 unfold wrap64
 omega
theorem nil_segsF (t:TypeId) (n:Nat) (W:World):OwnSegsF t n n W (.slice none 0 0) []:=⟨[],World.ownsRow_nil _ _ _ _,Nums32.nil _,(fun x hx=>by cases hx),FreshQ.nil _⟩
theorem NormSt.drew {w W:World} {x0 x1 x2 x3 x4 x5 x6 x7 x8 y0 y1 y2 y3 y4 y5 y6 y7 y8:Value} (h:NormSt w x0 x1 x2 x3 x4 x5 x6 x7 x8 y0 y1 y2 y3 y4 y5 y6 y7 y8 W):NormSt w x0 x1 x2 x3 x4 x5 x6 x7 x8 y0 y1 y2 y3 y4 y5 y6 y7 y8 W.drew:=⟨⟨h.b1.blk⟩,⟨h.b2.blk⟩,⟨h.b3.blk⟩,h.low.drew⟩
theorem segs_drew {W:World} {t:TypeId} {n:Nat} {v:Value} {p:List Piece} (h:OwnSegsF t n n W v p):OwnSegsF t n n W.drew v p:=segs_off h (fun _ _=>rfl) (Nat.le_refl _)
def nine (W:World) (B:Nat) (v0 v1 v2 v3 v4 v5 v6 v7 v8:Value):World:=(((((((((W.setCell ⟨B,0,none⟩ v0).setCell ⟨B,1,none⟩ v1).setCell ⟨B,2,none⟩ v2).setCell ⟨B,3,none⟩ v3).setCell ⟨B,4,none⟩ v4).setCell ⟨B,5,none⟩ v5).setCell ⟨B,6,none⟩ v6).setCell ⟨B,7,none⟩ v7).setCell ⟨B,8,none⟩ v8)
theorem nine_off (W:World) (B:Nat) (v0 v1 v2 v3 v4 v5 v6 v7 v8:Value):(∀ k,B<k→(nine W B v0 v1 v2 v3 v4 v5 v6 v7 v8).heap[k]?=W.heap[k]?)∧W.heap.size≤(nine W B v0 v1 v2 v3 v4 v5 v6 v7 v8).heap.size:=by
 refine ⟨fun k hk=>?_,by simp [nine]⟩
 have hne:∀ i:Nat,k≠(⟨B,i,none⟩:Addr).block:=fun i=>by show k≠B;omega
 unfold nine
 simp only [Go.RowKit.Below.heap_setCell _ _ _ _ (hne _)]
theorem nine_low {w W:World} {n:Nat} (h:Below n w W) (B:Nat) (hB:n≤B) (v0 v1 v2 v3 v4 v5 v6 v7 v8:Value):Below n w (nine W B v0 v1 v2 v3 v4 v5 v6 v7 v8):=by
 unfold nine
 have k:∀ (W:World) (i:Nat) (v:Value),Below n w W→Below n w (W.setCell ⟨B,i,none⟩ v):=fun W i v h=>h.setCell (p:=⟨B,i,none⟩) hB v
 exact k _ _ _ (k _ _ _ (k _ _ _ (k _ _ _ (k _ _ _ (k _ _ _ (k _ _ _ (k _ _ _ (k _ _ _ h))))))))
def normA (a:At):At:=⟨(hasUpto a.has 8:Nat),if hasB a.has 1 then a.origin else 0,if hasB a.has 2 then normS a.path else [],if hasB a.has 3 then a.hop else 0,if hasB a.has 4 then a.med else 0,if hasB a.has 5 then a.pref else 0,if hasB a.has 7 then a.aas else 0,if hasB a.has 7 then a.aid else 0,if hasB a.has 8 then setOf a.comms else []⟩
theorem norm8 (h o:Int) (vp vc:Value) (hp md pr ag ai:Nat) (p:List Piece) (cm:List Nat) (w:World) (hP:Segs w vp p) (hC:U32s w vc cm) (hbk:bulk p≤50000) (hfit:FitS 1000 p) (hcl:cm.length≤1000)
  (o1:Int) (hp1 md1 pr1 ag1 ai1:Nat) (p1:List Piece) (cm1:List Nat) (E1:Hid (o1=if hasB h 1 then o else 0)) (E2:Hid (p1=if hasB h 2 then normS p else [])) (E3:Hid (hp1=if hasB h 3 then hp else 0)) (E4:Hid (md1=if hasB h 4 then md else 0)) (E5:Hid (pr1=if hasB h 5 then pr else 0)) (E6:Hid (ag1=if hasB h 7 then ag else 0)) (E7:Hid (ai1=if hasB h 7 then ai else 0)) (E8:Hid (cm1=if hasB h 8 then setOf cm else [])) :
  Calls Tryz.prog 122 #[.agg #[.int .i64 h,.int .i64 o,vp,.int .u32 hp,.int .u32 md,.int .u32 pr,.int .u32 ag,.int .u32 ai,vc]] w (fun e w'=>∃ vq vs,e=.returned (.agg #[.int .i64 (hasUpto h 8:Nat),.int .i64 o1,vq,.int .u32 hp1,.int .u32 md1,.int .u32 pr1,.int .u32 ag1,.int .u32 ai1,vs]) ∧
   OwnSegsF 108 w.heap.size w.heap.size w' vq p1∧w'.ownsRow w.heap.size 22 1 vs cm1.length (cm1.map fun n:Nat=>Value.int .u32 n)∧Below w.heap.size w w'):=by
 have CH:=hid (fun (k:Int) (W:World)=>refHas8 h k (.int .i64 o) vp (.int .u32 hp) (.int .u32 md) (.int .u32 pr) (.int .u32 ag) (.int .u32 ai) vc W)
 have CP:=hid (fun (W:World) (hb:Below w.heap.size w W)=>Seg.norm_anyF vp p W (hP.keep hb) hbk hfit)
 have CS:=hid (fun (W:World) (hb:Below w.heap.size w W)=>Nums.refSet_own vc cm W (hC.keep hb) hcl)
 have S0:=hid (norm_new w (.int .i64 h) (.int .i64 o) vp (.int .u32 hp) (.int .u32 md) (.int .u32 pr) (.int .u32 ag) (.int .u32 ai) vc)
 clear hP hC hbk hfit hcl
 go_enter Tryz.func122,Tryz.ntmps122
 go_wp2
 go_loopw [4] (fun v4 wx=>∃ j:Nat,j≤8∧v4=.int .i64 ((j:Int)+1)∧Hid (NormSt w (.int .i64 h) (.int .i64 o) vp (.int .u32 hp) (.int .u32 md) (.int .u32 pr) (.int .u32 ag) (.int .u32 ai) vc (.int .i64 (hasUpto h j:Nat)) (.int .i64 0) (.slice none 0 0) (.int .u32 0) (.int .u32 0) (.int .u32 0) (.int .u32 0) (.int .u32 0) (.slice none 0 0) wx)) (fun v4 _=>10 - (intOf v4).toNat)
 case atStart=>exact ⟨0,by omega,rfl,S0⟩
 case round =>
  obtain ⟨j,hj,rfl,ST⟩:=hrel
  obtain ⟨c0,c1,c2,c3,c4,c5,c6,c7,c8⟩:=ST.out.b1.cells
  obtain ⟨d0,d1,d2,d3,d4,d5,d6,d7,d8⟩:=ST.out.b3.cells
  by_cases hlt:j<8
  ·have z1:(j:Int)+1≤8:=by omega
   have CHJ:=hid (fun W=>show Calls Tryz.prog 73 #[.agg #[.int .i64 h,.int .i64 o,vp,.int .u32 hp,.int .u32 md,.int .u32 pr,.int .u32 ag,.int .u32 ai,vc],.int .i64 ((j:Int)+1)] W (Tells (.bool (hasB h ((j+1:Nat):Int))) W) from CH.out ((j:Int)+1) W)
   have HU:=hid (show hasUpto h (j+1)=hasUpto h j+if hasB h ((j+1:Nat):Int) then 2 ^ (j+1) else 0 from rfl)
   have hle:=hasUpto_le h j
   have hpw:2 ^ (j+1)≤2 ^ 8:=Nat.pow_le_pow_right (by omega) (by omega)
   have ej:((j:Int)+1).toNat=j+1:=by omega
   cases hbj:hasB h ((j+1:Nat):Int) with
   | false =>
    rw [hbj] at CHJ HU
    go_wp2_with (go_at_call 73;refine (CHJ.out _).mono ?_;rintro e x ⟨rfl,hx⟩;replace ST:=hid (ST.out.below hx);clear hx c0 c1 c2 c3 c4 c5 c6 c7 c8 d0 d1 d2 d3 d4 d5 d6 d7 d8)
    go_roundw
    case rel=>exact ⟨j+1,by omega,by go_num,hid (by have e:=HU.out;simp at e;rw [e];exact ST.out)⟩
    case measure=>simp [intOf];omega
   | true =>
    rw [hbj] at CHJ HU
    go_wp2_with (go_at_call 73;refine (CHJ.out _).mono ?_;rintro e x ⟨rfl,hx⟩;replace ST:=hid (ST.out.below hx);clear c0 c1 c2 c3 c4 c5 c6 c7 c8 d0 d1 d2 d3 d4 d5 d6 d7 d8;have d0:=ST.out.b3.cells.1;have f0:=ST.out.b3.free 0;clear hx)
    go_roundw
    case rel =>
     refine ⟨j+1,by omega,by go_num,hid ?_⟩
     have e:wrap64 ((hasUpto h j:Nat)+wrap64 (2 ^ (j+1)))=((hasUpto h (j+1):Nat):Int):=by
      have e1:hasUpto h (j+1)=hasUpto h j+2 ^ (j+1):=by have e:=HU.out;simp at e;exact e
      rw [e1]
      have e2:((2:Int) ^ (j+1))=((2 ^ (j+1):Nat):Int):=by simp
      rw [e2]
      have h1:hasUpto h j<512:=by omega
      have h2:2 ^ (j+1)≤256:=by omega
      generalize 2 ^ (j+1)=q at h2
      have e3:wrap64 ((q:Nat):Int)=q:=wrap64_small (by omega) (by omega)
      rw [e3,wrap64_small (by omega) (by omega)]
      omega
     have h2:=ST.out.set0 (.int .i64 (wrap64 ((hasUpto h j:Nat)+wrap64 (2 ^ (j+1)))))
     rw [e] at h2
     rw [e]
     exact h2
    case measure=>simp [intOf];omega
  ·obtain rfl:j=8:=by omega
   have z1:decide ((8:Int)+1≤8)=false:=rfl
   go_upto_if 21 with (go_at_call 73;refine (CH.out 1 _).mono ?_;rintro e x ⟨rfl,hx⟩;replace ST:=hid (ST.out.below hx);clear c0 c1 c2 c3 c4 c5 c6 c7 c8 d0 d1 d2 d3 d4 d5 d6 d7 d8;obtain ⟨c0,c1,c2,c3,c4,c5,c6,c7,c8⟩:=ST.out.b1.cells;obtain ⟨d0,d1,d2,d3,d4,d5,d6,d7,d8⟩:=ST.out.b3.cells;have ff:=ST.out.b3.free;clear hx)
   go_cut [] from 20 (fun wx=>Hid (NormSt w (.int .i64 h) (.int .i64 o) vp (.int .u32 hp) (.int .u32 md) (.int .u32 pr) (.int .u32 ag) (.int .u32 ai) vc (.int .i64 (hasUpto h 8:Nat)) (.int .i64 o1) (.slice none 0 0) (.int .u32 0) (.int .u32 0) (.int .u32 0) (.int .u32 0) (.int .u32 0) (.slice none 0 0) wx))
   case first =>
    cases hb:hasB h 1 with
    | false=>go_wp2;go_meet;rw [E1.out,if_neg (show ¬ hasB h 1=true by rw [hb];decide)];exact ST
    | true=>go_wp2;go_meet;rw [E1.out,if_pos hb];exact hid (ST.out.set1 _)
   case rest =>
   clear ST c0 c1 c2 c3 c4 c5 c6 c7 c8 d0 d1 d2 d3 d4 d5 d6 d7 d8
   have ST:=hcut
   obtain ⟨c0,c1,c2,c3,c4,c5,c6,c7,c8⟩:=ST.out.b1.cells;obtain ⟨d0,d1,d2,d3,d4,d5,d6,d7,d8⟩:=ST.out.b3.cells
   go_upto_if 26 with (go_at_call 73;refine (CH.out 2 _).mono ?_;rintro e x ⟨rfl,hx⟩;replace ST:=hid (ST.out.below hx);clear c0 c1 c2 c3 c4 c5 c6 c7 c8 d0 d1 d2 d3 d4 d5 d6 d7 d8;obtain ⟨c0,c1,c2,c3,c4,c5,c6,c7,c8⟩:=ST.out.b1.cells;obtain ⟨d0,d1,d2,d3,d4,d5,d6,d7,d8⟩:=ST.out.b3.cells;have ff:=ST.out.b3.free;clear hx)
   go_cut [] from 25 (fun wx=>∃ vq,Hid (NormSt w (.int .i64 h) (.int .i64 o) vp (.int .u32 hp) (.int .u32 md) (.int .u32 pr) (.int .u32 ag) (.int .u32 ai) vc (.int .i64 (hasUpto h 8:Nat)) (.int .i64 o1) vq (.int .u32 0) (.int .u32 0) (.int .u32 0) (.int .u32 0) (.int .u32 0) (.slice none 0 0) wx)∧Hid (OwnSegsF 108 (w.heap.size+1+1+1) (w.heap.size+1+1+1) wx vq p1))
   case first =>
    cases hb:hasB h 2 with
    | false=>go_wp2;go_meet;rw [E2.out,if_neg (show ¬ hasB h 2=true by rw [hb];decide)];exact ⟨_,ST,hid (nil_segsF _ _ _)⟩
    | true =>
     go_wp2_with (go_at_call 153;refine (CP.out _ ST.out.low).mono ?_;rintro e x ⟨vq,rfl,hq,hx⟩;obtain ⟨aq,cq,rfl⟩:=hq.form;have HQ:=hid (hq.lower ST.out.b3.lt ST.out.b3.lt);clear hq;replace ST:=hid (ST.out.below hx);clear c0 c1 c2 c3 c4 c5 c6 c7 c8 d0 d1 d2 d3 d4 d5 d6 d7 d8;obtain ⟨c0,c1,c2,c3,c4,c5,c6,c7,c8⟩:=ST.out.b1.cells;obtain ⟨d0,d1,d2,d3,d4,d5,d6,d7,d8⟩:=ST.out.b3.cells;have ff:=ST.out.b3.free;clear hx)
     go_meet
     rw [E2.out,if_pos hb]
     exact ⟨_,hid (ST.out.set2 _),hid (segs_off HQ.out (off_set _ (by omega)) (by simp))⟩
   case rest =>
   clear ST c0 c1 c2 c3 c4 c5 c6 c7 c8 d0 d1 d2 d3 d4 d5 d6 d7 d8
   obtain ⟨vq,ST,HQ⟩:=hcut
   obtain ⟨c0,c1,c2,c3,c4,c5,c6,c7,c8⟩:=ST.out.b1.cells;obtain ⟨d0,d1,d2,d3,d4,d5,d6,d7,d8⟩:=ST.out.b3.cells
   go_upto_if 32 with (go_at_call 73;refine (CH.out 3 _).mono ?_;rintro e x ⟨rfl,hx⟩;replace ST:=hid (ST.out.below hx);replace HQ:=hid (HQ.out.keep hx);clear c0 c1 c2 c3 c4 c5 c6 c7 c8 d0 d1 d2 d3 d4 d5 d6 d7 d8;obtain ⟨c0,c1,c2,c3,c4,c5,c6,c7,c8⟩:=ST.out.b1.cells;obtain ⟨d0,d1,d2,d3,d4,d5,d6,d7,d8⟩:=ST.out.b3.cells;have ff:=ST.out.b3.free;clear hx)
   go_cut [] from 31 (fun wx=>Hid (NormSt w (.int .i64 h) (.int .i64 o) vp (.int .u32 hp) (.int .u32 md) (.int .u32 pr) (.int .u32 ag) (.int .u32 ai) vc (.int .i64 (hasUpto h 8:Nat)) (.int .i64 o1) vq (.int .u32 hp1) (.int .u32 0) (.int .u32 0) (.int .u32 0) (.int .u32 0) (.slice none 0 0) wx)∧Hid (OwnSegsF 108 (w.heap.size+1+1+1) (w.heap.size+1+1+1) wx vq p1))
   case first =>
    cases hb:hasB h 3 with
    | false=>go_wp2;go_meet;rw [E3.out,if_neg (show ¬ hasB h 3=true by rw [hb];decide)];exact ⟨ST,HQ⟩
    | true=>go_wp2;go_meet;rw [E3.out,if_pos hb];exact ⟨hid (ST.out.set3 _),hid (segs_off HQ.out (off_set _ (by omega)) (by simp))⟩
   case rest =>
   clear ST HQ c0 c1 c2 c3 c4 c5 c6 c7 c8 d0 d1 d2 d3 d4 d5 d6 d7 d8
   obtain ⟨ST,HQ⟩:=hcut
   obtain ⟨c0,c1,c2,c3,c4,c5,c6,c7,c8⟩:=ST.out.b1.cells;obtain ⟨d0,d1,d2,d3,d4,d5,d6,d7,d8⟩:=ST.out.b3.cells
   go_upto_if 37 with (go_at_call 73;refine (CH.out 4 _).mono ?_;rintro e x ⟨rfl,hx⟩;replace ST:=hid (ST.out.below hx);replace HQ:=hid (HQ.out.keep hx);clear c0 c1 c2 c3 c4 c5 c6 c7 c8 d0 d1 d2 d3 d4 d5 d6 d7 d8;obtain ⟨c0,c1,c2,c3,c4,c5,c6,c7,c8⟩:=ST.out.b1.cells;obtain ⟨d0,d1,d2,d3,d4,d5,d6,d7,d8⟩:=ST.out.b3.cells;have ff:=ST.out.b3.free;clear hx)
   go_cut [] from 36 (fun wx=>Hid (NormSt w (.int .i64 h) (.int .i64 o) vp (.int .u32 hp) (.int .u32 md) (.int .u32 pr) (.int .u32 ag) (.int .u32 ai) vc (.int .i64 (hasUpto h 8:Nat)) (.int .i64 o1) vq (.int .u32 hp1) (.int .u32 md1) (.int .u32 0) (.int .u32 0) (.int .u32 0) (.slice none 0 0) wx)∧Hid (OwnSegsF 108 (w.heap.size+1+1+1) (w.heap.size+1+1+1) wx vq p1))
   case first =>
    cases hb:hasB h 4 with
    | false=>go_wp2;go_meet;rw [E4.out,if_neg (show ¬ hasB h 4=true by rw [hb];decide)];exact ⟨ST,HQ⟩
    | true=>go_wp2;go_meet;rw [E4.out,if_pos hb];exact ⟨hid (ST.out.set4 _),hid (segs_off HQ.out (off_set _ (by omega)) (by simp))⟩
   case rest =>
   clear ST HQ c0 c1 c2 c3 c4 c5 c6 c7 c8 d0 d1 d2 d3 d4 d5 d6 d7 d8
   obtain ⟨ST,HQ⟩:=hcut
   obtain ⟨c0,c1,c2,c3,c4,c5,c6,c7,c8⟩:=ST.out.b1.cells;obtain ⟨d0,d1,d2,d3,d4,d5,d6,d7,d8⟩:=ST.out.b3.cells
   go_upto_if 42 with (go_at_call 73;refine (CH.out 5 _).mono ?_;rintro e x ⟨rfl,hx⟩;replace ST:=hid (ST.out.below hx);replace HQ:=hid (HQ.out.keep hx);clear c0 c1 c2 c3 c4 c5 c6 c7 c8 d0 d1 d2 d3 d4 d5 d6 d7 d8;obtain ⟨c0,c1,c2,c3,c4,c5,c6,c7,c8⟩:=ST.out.b1.cells;obtain ⟨d0,d1,d2,d3,d4,d5,d6,d7,d8⟩:=ST.out.b3.cells;have ff:=ST.out.b3.free;clear hx)
   go_cut [] from 41 (fun wx=>Hid (NormSt w (.int .i64 h) (.int .i64 o) vp (.int .u32 hp) (.int .u32 md) (.int .u32 pr) (.int .u32 ag) (.int .u32 ai) vc (.int .i64 (hasUpto h 8:Nat)) (.int .i64 o1) vq (.int .u32 hp1) (.int .u32 md1) (.int .u32 pr1) (.int .u32 0) (.int .u32 0) (.slice none 0 0) wx)∧Hid (OwnSegsF 108 (w.heap.size+1+1+1) (w.heap.size+1+1+1) wx vq p1))
   case first =>
    cases hb:hasB h 5 with
    | false=>go_wp2;go_meet;rw [E5.out,if_neg (show ¬ hasB h 5=true by rw [hb];decide)];exact ⟨ST,HQ⟩
    | true=>go_wp2;go_meet;rw [E5.out,if_pos hb];exact ⟨hid (ST.out.set5 _),hid (segs_off HQ.out (off_set _ (by omega)) (by simp))⟩
   case rest =>
   clear ST HQ c0 c1 c2 c3 c4 c5 c6 c7 c8 d0 d1 d2 d3 d4 d5 d6 d7 d8
   obtain ⟨ST,HQ⟩:=hcut
   obtain ⟨c0,c1,c2,c3,c4,c5,c6,c7,c8⟩:=ST.out.b1.cells;obtain ⟨d0,d1,d2,d3,d4,d5,d6,d7,d8⟩:=ST.out.b3.cells
   go_upto_if 47 with (go_at_call 73;refine (CH.out 7 _).mono ?_;rintro e x ⟨rfl,hx⟩;replace ST:=hid (ST.out.below hx);replace HQ:=hid (HQ.out.keep hx);clear c0 c1 c2 c3 c4 c5 c6 c7 c8 d0 d1 d2 d3 d4 d5 d6 d7 d8;obtain ⟨c0,c1,c2,c3,c4,c5,c6,c7,c8⟩:=ST.out.b1.cells;obtain ⟨d0,d1,d2,d3,d4,d5,d6,d7,d8⟩:=ST.out.b3.cells;have ff:=ST.out.b3.free;clear hx)
   go_cut [] from 46 (fun wx=>Hid (NormSt w (.int .i64 h) (.int .i64 o) vp (.int .u32 hp) (.int .u32 md) (.int .u32 pr) (.int .u32 ag) (.int .u32 ai) vc (.int .i64 (hasUpto h 8:Nat)) (.int .i64 o1) vq (.int .u32 hp1) (.int .u32 md1) (.int .u32 pr1) (.int .u32 ag1) (.int .u32 ai1) (.slice none 0 0) wx)∧Hid (OwnSegsF 108 (w.heap.size+1+1+1) (w.heap.size+1+1+1) wx vq p1))
   case first =>
    cases hb:hasB h 7 with
    | false=>go_wp2;go_meet;rw [E6.out,E7.out,if_neg (show ¬ hasB h 7=true by rw [hb];decide),if_neg (show ¬ hasB h 7=true by rw [hb];decide)];exact ⟨ST,HQ⟩
    | true =>
     go_wp2
     go_region
     all_goals go_wp2
     all_goals go_meet
     all_goals rw [E6.out,E7.out,if_pos hb,if_pos hb]
     all_goals exact ⟨hid ((ST.out.set6 _).set7 _).drew,hid (segs_drew (segs_off (segs_off HQ.out (off_set _ (by omega)) (by simp)) (off_set _ (by omega)) (by simp)))⟩
   case rest =>
   clear ST HQ c0 c1 c2 c3 c4 c5 c6 c7 c8 d0 d1 d2 d3 d4 d5 d6 d7 d8
   obtain ⟨ST,HQ⟩:=hcut
   obtain ⟨c0,c1,c2,c3,c4,c5,c6,c7,c8⟩:=ST.out.b1.cells;obtain ⟨d0,d1,d2,d3,d4,d5,d6,d7,d8⟩:=ST.out.b3.cells
   go_upto_if 55 with (go_at_call 73;refine (CH.out 8 _).mono ?_;rintro e x ⟨rfl,hx⟩;replace ST:=hid (ST.out.below hx);replace HQ:=hid (HQ.out.keep hx);clear c0 c1 c2 c3 c4 c5 c6 c7 c8 d0 d1 d2 d3 d4 d5 d6 d7 d8;obtain ⟨c0,c1,c2,c3,c4,c5,c6,c7,c8⟩:=ST.out.b1.cells;obtain ⟨d0,d1,d2,d3,d4,d5,d6,d7,d8⟩:=ST.out.b3.cells;have ff:=ST.out.b3.free;clear hx)
   go_cut [] from 54 (fun wx=>∃ vs,Hid (NormSt w (.int .i64 h) (.int .i64 o) vp (.int .u32 hp) (.int .u32 md) (.int .u32 pr) (.int .u32 ag) (.int .u32 ai) vc (.int .i64 (hasUpto h 8:Nat)) (.int .i64 o1) vq (.int .u32 hp1) (.int .u32 md1) (.int .u32 pr1) (.int .u32 ag1) (.int .u32 ai1) vs wx)∧Hid (OwnSegsF 108 (w.heap.size+1+1+1) (w.heap.size+1+1+1) wx vq p1)∧Hid (wx.ownsRow (w.heap.size+1+1+1) 22 1 vs cm1.length (cm1.map fun n:Nat=>Value.int .u32 n)))
   case first =>
    cases hb:hasB h 8 with
    | false=>go_wp2;go_meet;rw [E8.out,if_neg (show ¬ hasB h 8=true by rw [hb];decide)];exact ⟨_,ST,HQ,hid (World.ownsRow_nil _ _ _ _)⟩
    | true =>
     go_wp2_with (go_at_call 154;refine (CS.out _ ST.out.low).mono ?_;rintro e x ⟨vs,rfl,hq,hx⟩;obtain ⟨ar,cr,rfl⟩:=own_form hq;have HS:=hid (own_base hq ST.out.b3.lt);clear hq;replace ST:=hid (ST.out.below hx);replace HQ:=hid (HQ.out.keep hx);clear c0 c1 c2 c3 c4 c5 c6 c7 c8 d0 d1 d2 d3 d4 d5 d6 d7 d8;obtain ⟨c0,c1,c2,c3,c4,c5,c6,c7,c8⟩:=ST.out.b1.cells;obtain ⟨d0,d1,d2,d3,d4,d5,d6,d7,d8⟩:=ST.out.b3.cells;have ff:=ST.out.b3.free;clear hx)
     go_meet
     rw [E8.out,if_pos hb]
     exact ⟨_,hid (ST.out.set8 _),hid (segs_off HQ.out (off_set _ (by omega)) (by simp)),hid (own_off HS.out (off_set _ (by omega)))⟩
   case rest =>
   clear ST HQ c0 c1 c2 c3 c4 c5 c6 c7 c8 d0 d1 d2 d3 d4 d5 d6 d7 d8
   obtain ⟨vs,ST,HQ,HS⟩:=hcut
   obtain ⟨c0,c1,c2,c3,c4,c5,c6,c7,c8⟩:=ST.out.b1.cells;obtain ⟨d0,d1,d2,d3,d4,d5,d6,d7,d8⟩:=ST.out.b3.cells
   obtain ⟨aq,cq,rfl⟩:=HQ.out.form
   obtain ⟨ar,cr,rfl⟩:=own_form HS.out
   obtain ⟨g0,g1,g2,g3,g4,g5,g6,g7,g8⟩:=ST.out.b2.cells
   have fg:=ST.out.b2.free
   have B9:=((((((((ST.out.b2.set0 (.int .i64 (hasUpto h 8:Nat))).set1 (.int .i64 o1)).set2 (.slice aq p1.length cq)).set3 (.int .u32 hp1)).set4 (.int .u32 md1)).set5 (.int .u32 pr1)).set6 (.int .u32 ag1)).set7 (.int .u32 ai1)).set8 (.slice ar cm1.length cr)
   obtain ⟨r0,r1,r2,r3,r4,r5,r6,r7,r8⟩:=B9.cells
   go_wp2
   (try simp only [Exit.inBlock,Exit.then])
   refine bodyPost_ret (v:=.agg #[.int .i64 (hasUpto h 8:Nat),.int .i64 o1,.slice aq p1.length cq,.int .u32 hp1,.int .u32 md1,.int .u32 pr1,.int .u32 ag1,.int .u32 ai1,.slice ar cm1.length cr]) (by simp [results,Tryz.results122,go_sem,r0,r1,r2,r3,r4,r5,r6,r7,r8]) rfl ?_
   have hlo:=nine_low ST.out.low (w.heap.size+1) (by omega) (.int .i64 (hasUpto h 8:Nat)) (.int .i64 o1) (.slice aq p1.length cq) (.int .u32 hp1) (.int .u32 md1) (.int .u32 pr1) (.int .u32 ag1) (.int .u32 ai1) (.slice ar cm1.length cr)
   have hk:=nine_off wc (w.heap.size+1) (.int .i64 (hasUpto h 8:Nat)) (.int .i64 o1) (.slice aq p1.length cq) (.int .u32 hp1) (.int .u32 md1) (.int .u32 pr1) (.int .u32 ag1) (.int .u32 ai1) (.slice ar cm1.length cr)
   refine ⟨_,_,rfl,?_,?_,hlo⟩
   ·exact OwnSegsF.lower (segs_off HQ.out (fun k h=>hk.1 k (by omega)) hk.2) (by omega) (by omega)
   ·exact own_base (own_off HS.out (fun k h=>hk.1 k (by omega))) (by omega)
def GivesA (a:At) (w:World) (e:Ending) (w':World):Prop:=∃ v vp vc,e=.returned v∧v=.agg (acells a vp vc).toArray∧a.ok∧OwnSegsF 108 w.heap.size w.heap.size w' vp a.path∧w'.ownsRow w.heap.size 22 1 vc a.comms.length (a.comms.map fun n:Nat=>Value.int .u32 n)∧(∀ y∈a.comms,y<4294967296)∧Below w.heap.size w w'
theorem normA_ok {a:At} (h:a.ok):(normA a).ok:=by
 obtain ⟨h0,h1,h2,h3,h4,h5,h6⟩:=h
 unfold normA At.ok
 dsimp only
 have hu:=hasUpto_le a.has 8
 refine ⟨?_,?_,?_,?_,?_,?_,?_⟩
 ·simp [Lit.wf,IntKind.min,IntKind.max,IntKind.signed,IntKind.bits];omega
 ·split
  ·exact h1
  ·decide
 all_goals (split <;> first | assumption | omega)
theorem refNorm8 (v:Value) (a:At) (w:World) (hv:Attrs w v a) (hbk:bulk a.path≤50000) (hfit:FitS 1000 a.path) (hcl:a.comms.length≤1000):Calls Tryz.prog 122 #[v] w (GivesA (normA a) w):=by
 obtain ⟨hok,vp,vc,rfl,hP,hC⟩:=hv
 obtain ⟨-,-,-,-,-,-,hC32⟩:=(show (0:Nat)=0∧0=0∧0=0∧0=0∧0=0∧0=0∧∀ y∈a.comms,y<4294967296 from ⟨rfl,rfl,rfl,rfl,rfl,rfl,let ⟨_,_,_,_,_,h,_⟩:=hC.open_;h⟩)
 have h:=norm8 a.has a.origin vp vc a.hop a.med a.pref a.aas a.aid a.path a.comms w hP hC hbk hfit hcl _ _ _ _ _ _ _ _ (hid rfl) (hid rfl) (hid rfl) (hid rfl) (hid rfl) (hid rfl) (hid rfl) (hid rfl)
 refine h.mono ?_
 rintro e w' ⟨vq,vs,rfl,h1,h2,h3⟩
 refine ⟨_,vq,vs,rfl,rfl,normA_ok hok,h1,h2,?_,h3⟩
 intro y hy
 unfold normA at hy
 dsimp only at hy
 split at hy
 ·exact hC32 y ((Rise.mem_setOf _ y).1 hy)
 ·cases hy
end Att
namespace Att
open Go.RowKit Mem Segm Rise
end Att
namespace Att
open Go.RowKit Mem Segm Rise Nums
end Att
end Go.Proofs.YtjfmompgkkdliaaGreatDoor
