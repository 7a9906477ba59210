/- Part of the proof. -/
import Derived.Test.YtjfmompgkkdliaaGreatDoorH37
import Derived.Test.YtjfmompgkkdliaaGreatDoorH02
import Derived.Test.YtjfmompgkkdliaaGreatDoorH08
import Derived.Deep.DeepCutAuto
import Derived.Test.YtjfmompgkkdliaaGreatDoorH23
import Derived.Test.YtjfmompgkkdliaaGreatDoorH24
import Derived.Test.YtjfmompgkkdliaaGreatDoorH07
import Derived.Test.YtjfmompgkkdliaaGreatDoorH04
open Go.Lib (hid)
set_option maxRecDepth 100000
set_option maxHeartbeats 40000000
namespace Go.Proofs.YtjfmompgkkdliaaGreatDoor
namespace Att
open Go.RowKit Mem Segm Oct Seg
def seenA (l:List Nat):Array Value:=((List.range 256).map fun i=>Value.bool (decide (i∈l))).toArray
theorem seenA_at (l:List Nat) {k:Nat} (hk:k<256):(seenA l)[k]?=some (.bool (decide (k∈l))):=by
 unfold seenA
 simp [hk]
theorem seenA_set (l:List Nat) {k:Nat} (hk:k<256):(seenA l).setIfInBounds k (.bool true)=seenA (k :: l):=by
 apply Array.ext_getElem?
 intro i
 rw [Array.getElem?_setIfInBounds]
 by_cases hi:i<256
 ·rw [seenA_at (k :: l) hi]
  by_cases h:k=i
  ·subst h
   have:k<(seenA l).size:=by simp [seenA];exact hk
   simp [this]
  ·rw [if_neg h,seenA_at l hi]
   have e:(i∈k :: l) ↔ i∈l:=by
    rw [List.mem_cons]
    exact ⟨fun q=>q.elim (fun q=>absurd q.symm h) id,Or.inr⟩
   rw [decide_eq_decide.2 e]
 ·have h1:(seenA l)[i]?=none:=by simp [seenA];omega
  have h2:(seenA (k :: l))[i]?=none:=by simp [seenA];omega
  rw [if_neg (by omega),h1,h2]
theorem seen_zero:Tryz.zeroCells159=seenA []:=by kernel_rfl
theorem rd_only {W W':World} {base n B:Nat} {v:Value} {l:List Nat} {bad:Bool} {F:Nat→Prop} (h:R W base n v l bad F) (hB:∀ i n,W.cell? ⟨B,i,none⟩≠some (.int .u8 n)) (hb:B<base) (ho:Only (fun q=>q=B) W W'):R W' base n v l bad F:=by
 rcases h with h | ⟨b,s,h1,h2,h3,h4,h5,h6,h7,h8⟩
 ·exact .inl h
 ·exact .inr ⟨b,s,h1,h2,h3,Nat.le_trans h4 ho.size,(ho.block b (by omega) (by omega)).trans h5,u8_only h6 hB ho,h7,h8⟩
def cellLen (W:World) (b:Nat):Nat:=match W.cell? ⟨b,0,none⟩ with
 | some (.slice _ n _)=>n
 | _=>0
theorem cellLen_is {W:World} {base n b:Nat} {l:List Nat} {bad:Bool} {F:Nat→Prop} (h:R W base n (.pointer (some ⟨b,0,none⟩)) l bad F):cellLen W b=l.length:=by
 rcases h with ⟨h,_⟩ | ⟨b',s,h1,_,_,_,h5,h6,_⟩
 ·cases h
 ·injection h1 with h1
  injection h1 with h1
  injection h1 with h1
  subst h1
  obtain ⟨A,c,rfl,_,_⟩:=h6.form
  unfold cellLen
  rw [(cell0 h5).1]
structure DcSt (w0:World) (b N:Nat) (seen:List Nat) (a:At) (x:Rd) (W:World):Prop where
 r9:Box9 W w0.heap.size 29 (.int .i64 0) (.int .i64 0) (.slice none 0 0) (.int .u32 0) (.int .u32 0) (.int .u32 0) (.int .u32 0) (.int .u32 0) (.slice none 0 0)
 n3:Box3 W (w0.heap.size+1) 34 (.int .i64 0) (.int .i64 0) (.slice none 0 0)
 box:BoxA W (w0.heap.size+2) N a
 sn:W.heap[w0.heap.size+3]?=some (.cells (seenA seen) 159)
 rd:R W (w0.heap.size+4) N (.pointer (some ⟨b,0,none⟩)) x.l x.b (fun q=>q=b)
 low:Below w0.heap.size w0 W
section
variable {w0 W W2:World} {b N:Nat} {seen:List Nat} {a a2:At} {x y:Rd}
theorem DcSt.lts (h:DcSt w0 b N seen a x W):w0.heap.size<W.heap.size∧w0.heap.size+1<W.heap.size∧w0.heap.size+3<W.heap.size∧w0.heap.size+4≤b∧b<N∧N≤W.heap.size :=
 ⟨h.r9.lt,h.n3.lt,(Array.getElem?_eq_some_iff.1 h.sn).1,(h.rd.low b rfl).1,(h.rd.low b rfl).2,h.box.lt.2⟩
theorem DcSt.below (h:DcSt w0 b N seen a x W) (hb:Below W.heap.size W W2):DcSt w0 b N seen a x W2 :=
 ⟨h.r9.keep hb,h.n3.keep hb,h.box.below hb,(hb.block _ h.lts.2.2.1).trans h.sn,h.rd.below hb,h.low.trans (hb.mono h.low.size)⟩
theorem DcSt.read (h:DcSt w0 b N seen a x W) (hr:R W2 (w0.heap.size+4) N (.pointer (some ⟨b,0,none⟩)) y.l y.b (fun q=>q=b)) (ho:Only (fun q=>q=b) W W2):DcSt w0 b N seen a y W2:=by
 obtain ⟨h1,h2,h3,h4,h5,h6⟩:=h.lts
 exact ⟨⟨(ho.block _ h1 (by omega)).trans h.r9.blk⟩,⟨(ho.block _ h2 (by omega)).trans h.n3.blk⟩,h.box.on ho (fun k e=>by subst e;omega),(ho.block _ h3 (by omega)).trans h.sn,hr,h.low.trans (ho.below (fun k e=>by subst e;omega) h.low.size)⟩
theorem DcSt.fill (h:DcSt w0 b N seen a x W) (ho:Only (fun q=>q=w0.heap.size+2) W W2) (hA:BoxA W2 (w0.heap.size+2) N a2):DcSt w0 b N seen a2 x W2:=by
 obtain ⟨h1,h2,h3,h4,h5,h6⟩:=h.lts
 obtain ⟨-,-,Ap,np,cp,Ac,nc,cc,b9,-,-,-⟩:=h.box
 exact ⟨⟨(ho.block _ h1 (by omega)).trans h.r9.blk⟩,⟨(ho.block _ h2 (by omega)).trans h.n3.blk⟩,hA,(ho.block _ h3 (by omega)).trans h.sn,rd_only h.rd (b9.no8 n9) (by omega) ho,h.low.trans (ho.below (fun k e=>by subst e;omega) h.low.size)⟩
theorem DcSt.lost (h:DcSt w0 b N seen a x W) (ho:Only (fun q=>q=w0.heap.size+2) W W2):Box9 W2 w0.heap.size 29 (.int .i64 0) (.int .i64 0) (.slice none 0 0) (.int .u32 0) (.int .u32 0) (.int .u32 0) (.int .u32 0) (.int .u32 0) (.slice none 0 0)∧Box3 W2 (w0.heap.size+1) 34 (.int .i64 0) (.int .i64 0) (.slice none 0 0)∧Below w0.heap.size w0 W2:=by
 obtain ⟨h1,h2,h3,h4,h5,h6⟩:=h.lts
 exact ⟨⟨(ho.block _ h1 (by omega)).trans h.r9.blk⟩,⟨(ho.block _ h2 (by omega)).trans h.n3.blk⟩,h.low.trans (ho.below (fun k e=>by subst e;omega) h.low.size)⟩
theorem seen_no8 (h:W.heap[w0.heap.size+3]?=some (.cells (seenA seen) 159)) (i:Nat) (n:Int):W.cell? ⟨w0.heap.size+3,i,none⟩≠some (.int .u8 n) :=
 no8_cells h (fun u hu=>by
  unfold seenA at hu
  simp only [List.mem_toArray,List.mem_map] at hu
  obtain ⟨j,_,rfl⟩:=hu
  exact no8_b _) i n
theorem DcSt.mark (h:DcSt w0 b N seen a x W) {k:Nat} (hk:k<256):DcSt w0 b N (k :: seen) a x (W.setCell ⟨w0.heap.size+3,k,none⟩ (.bool true)):=by
 obtain ⟨h1,h2,h3,h4,h5,h6⟩:=h.lts
 have ho:Only (fun q=>q=w0.heap.size+3) W (W.setCell ⟨w0.heap.size+3,k,none⟩ (.bool true)):=Only.set (F:=fun q=>q=w0.heap.size+3) (b:=w0.heap.size+3) (i:=k) (Only.refl _ _) rfl _
 have hN:=h.box.lt.1
 refine ⟨⟨(ho.block _ h1 (by omega)).trans h.r9.blk⟩,⟨(ho.block _ h2 (by omega)).trans h.n3.blk⟩,h.box.on ho (fun k e=>by subst e;omega),?_,rd_only h.rd (seen_no8 h.sn) (by omega) ho,h.low.trans (ho.below (fun k e=>by subst e;omega) h.low.size)⟩
 rw [Go.Joins.block_setCell h.sn,seenA_set seen hk]
theorem DcSt.seen_cell (h:DcSt w0 b N seen a x W) {k:Nat} (hk:k<256):W.cell? ⟨w0.heap.size+3,k,none⟩=some (.bool (decide (k∈seen)))∧W.frozen? ⟨w0.heap.size+3,k,none⟩=false:=by
 refine ⟨?_,Go.Joins.unfrozen_of_block h.sn k⟩
 have:=seenA_at seen hk
 simp only [World.cell?,h.sn]
 simpa using this
end
structure DcStart (w0 W:World):Prop where
 r9:Box9 W w0.heap.size 29 (.int .i64 0) (.int .i64 0) (.slice none 0 0) (.int .u32 0) (.int .u32 0) (.int .u32 0) (.int .u32 0) (.int .u32 0) (.slice none 0 0)
 n3:Box3 W (w0.heap.size+1) 34 (.int .i64 0) (.int .i64 0) (.slice none 0 0)
 b9:Box9 W (w0.heap.size+2) 29 (.int .i64 0) (.int .i64 0) (.slice none 0 0) (.int .u32 0) (.int .u32 0) (.int .u32 0) (.int .u32 0) (.int .u32 0) (.slice none 0 0)
 sn:W.heap[w0.heap.size+3]?=some (.cells (seenA []) 159)
 size:W.heap.size=w0.heap.size+4
 low:Below w0.heap.size w0 W
theorem DcStart.start {w0 W W2:World} {b:Nat} {l:List Nat} (h:DcStart w0 W) (hr:R W2 W.heap.size W2.heap.size (.pointer (some ⟨b,0,none⟩)) l false (fun q=>q=b)) (hb:Below W.heap.size W W2):DcSt w0 b W2.heap.size [] zeroA ⟨l,false⟩ W2:=by
 have hs:=hb.size
 rw [h.size] at hr hs
 refine ⟨h.r9.keep hb,h.n3.keep hb,⟨zeroA_ok,⟨by omega,Nat.le_refl _⟩,none,0,0,none,0,0,h.b9.keep hb,nil_segsF _ _ _,U32s.nil _,NewAt.nil _⟩,(hb.block _ (by rw [h.size];omega)).trans h.sn,hr,h.low.trans (hb.mono h.low.size)⟩
theorem dec_boxes (w:World):DcStart w ((((w.alloc (.cells #[.int .i64 0,.int .i64 0,.slice none 0 0,.int .u32 0,.int .u32 0,.int .u32 0,.int .u32 0,.int .u32 0,.slice none 0 0] 29)).alloc (.cells #[.int .i64 0,.int .i64 0,.slice none 0 0] 34)).alloc (.cells #[.int .i64 0,.int .i64 0,.slice none 0 0,.int .u32 0,.int .u32 0,.int .u32 0,.int .u32 0,.int .u32 0,.slice none 0 0] 29)).alloc (.cells Tryz.zeroCells159 159)):=by
 have h1:=Box9.new w 29 (.int .i64 0) (.int .i64 0) (.slice none 0 0) (.int .u32 0) (.int .u32 0) (.int .u32 0) (.int .u32 0) (.int .u32 0) (.slice none 0 0)
 have b1:Below w.heap.size w (w.alloc (.cells #[.int .i64 0,.int .i64 0,.slice none 0 0,.int .u32 0,.int .u32 0,.int .u32 0,.int .u32 0,.int .u32 0,.slice none 0 0] 29)):=(Below.refl _ _).alloc (Nat.le_refl _) _
 have e1:(w.alloc (.cells #[.int .i64 0,.int .i64 0,.slice none 0 0,.int .u32 0,.int .u32 0,.int .u32 0,.int .u32 0,.int .u32 0,.slice none 0 0] 29)).heap.size=w.heap.size+1:=by simp
 obtain ⟨w1,hw1⟩:∃ w1,w1=w.alloc (.cells #[.int .i64 0,.int .i64 0,.slice none 0 0,.int .u32 0,.int .u32 0,.int .u32 0,.int .u32 0,.int .u32 0,.slice none 0 0] 29):=⟨_,rfl⟩
 rw [← hw1] at h1 b1 e1 ⊢
 have h2:=Box3.new w1 34 (.int .i64 0) (.int .i64 0) (.slice none 0 0)
 have b2:Below w1.heap.size w1 (w1.alloc (.cells #[.int .i64 0,.int .i64 0,.slice none 0 0] 34)):=(Below.refl _ _).alloc (Nat.le_refl _) _
 have e2:(w1.alloc (.cells #[.int .i64 0,.int .i64 0,.slice none 0 0] 34)).heap.size=w.heap.size+2:=by simp [e1]
 obtain ⟨w2,hw2⟩:∃ w2,w2=w1.alloc (.cells #[.int .i64 0,.int .i64 0,.slice none 0 0] 34):=⟨_,rfl⟩
 rw [← hw2] at h2 b2 e2 ⊢
 have h3:=Box9.new w2 29 (.int .i64 0) (.int .i64 0) (.slice none 0 0) (.int .u32 0) (.int .u32 0) (.int .u32 0) (.int .u32 0) (.int .u32 0) (.slice none 0 0)
 have b3:Below w2.heap.size w2 (w2.alloc (.cells #[.int .i64 0,.int .i64 0,.slice none 0 0,.int .u32 0,.int .u32 0,.int .u32 0,.int .u32 0,.int .u32 0,.slice none 0 0] 29)):=(Below.refl _ _).alloc (Nat.le_refl _) _
 have e3:(w2.alloc (.cells #[.int .i64 0,.int .i64 0,.slice none 0 0,.int .u32 0,.int .u32 0,.int .u32 0,.int .u32 0,.int .u32 0,.slice none 0 0] 29)).heap.size=w.heap.size+3:=by simp [e2]
 obtain ⟨w3,hw3⟩:∃ w3,w3=w2.alloc (.cells #[.int .i64 0,.int .i64 0,.slice none 0 0,.int .u32 0,.int .u32 0,.int .u32 0,.int .u32 0,.int .u32 0,.slice none 0 0] 29):=⟨_,rfl⟩
 rw [← hw3] at h3 b3 e3 ⊢
 have b4:Below w3.heap.size w3 (w3.alloc (.cells Tryz.zeroCells159 159)):=(Below.refl _ _).alloc (Nat.le_refl _) _
 rw [e1] at h2
 rw [e2] at h3
 refine ⟨((h1.keep b2).keep b3).keep b4,(h2.keep b3).keep b4,h3.keep b4,?_,by simp [e3],(b1.trans (b2.mono b1.size)).trans ((b3.mono (by omega)).trans (b4.mono (by omega)))⟩
 have:=heap_alloc_new w3 (.cells Tryz.zeroCells159 159)
 rw [e3] at this
 rw [this,seen_zero]
theorem dec_mid {W:World} {n0:Nat} {x y z:Value} (h3:Box3 W (n0+1) 34 x y z) (v0 v1 v2 v3 v4 v5 v6 v7 v8:Value):Box3 (nine W n0 v0 v1 v2 v3 v4 v5 v6 v7 v8) (n0+1) 34 x y z:=⟨((nine_off W n0 v0 v1 v2 v3 v4 v5 v6 v7 v8).1 (n0+1) (by omega)).trans h3.blk⟩
theorem dec_end {w0 W:World} {n0:Nat} {q0 q1 q2 q3 q4 q5 q6 q7 q8 x y z:Value} (h9:Box9 W n0 29 q0 q1 q2 q3 q4 q5 q6 q7 q8) (h3:Box3 W (n0+1) 34 x y z) (hb:Below n0 w0 W) (v0 v1 v2 v3 v4 v5 v6 v7 v8 x' y' z':Value) :
  Box9 (three (nine W n0 v0 v1 v2 v3 v4 v5 v6 v7 v8) (n0+1) x' y' z') n0 29 v0 v1 v2 v3 v4 v5 v6 v7 v8∧Box3 (three (nine W n0 v0 v1 v2 v3 v4 v5 v6 v7 v8) (n0+1) x' y' z') (n0+1) 34 x' y' z'∧(∀ k,n0+1<k→(three (nine W n0 v0 v1 v2 v3 v4 v5 v6 v7 v8) (n0+1) x' y' z').heap[k]?=W.heap[k]?)∧W.heap.size≤(three (nine W n0 v0 v1 v2 v3 v4 v5 v6 v7 v8) (n0+1) x' y' z').heap.size∧Below n0 w0 (three (nine W n0 v0 v1 v2 v3 v4 v5 v6 v7 v8) (n0+1) x' y' z'):=by
 have a9:Box9 (nine W n0 v0 v1 v2 v3 v4 v5 v6 v7 v8) n0 29 v0 v1 v2 v3 v4 v5 v6 v7 v8:=((((((((h9.set0 v0).set1 v1).set2 v2).set3 v3).set4 v4).set5 v5).set6 v6).set7 v7).set8 v8
 have o1:=nine_off W n0 v0 v1 v2 v3 v4 v5 v6 v7 v8
 have o2:=three_off (nine W n0 v0 v1 v2 v3 v4 v5 v6 v7 v8) (n0+1) x' y' z'
 exact ⟨⟨(o2.1 n0 (by omega)).trans a9.blk⟩,(dec_mid h3 v0 v1 v2 v3 v4 v5 v6 v7 v8).laid x' y' z',fun k hk=>(o2.1 k (by omega)).trans (o1.1 k (by omega)),Nat.le_trans o1.2 o2.2,three_low (nine_low hb n0 (Nat.le_refl _) v0 v1 v2 v3 v4 v5 v6 v7 v8) (n0+1) (by omega) x' y' z'⟩
theorem n9z:∀ u∈[Value.int .i64 0,.int .i64 0,.slice none 0 0,.int .u32 0,.int .u32 0,.int .u32 0,.int .u32 0,.int .u32 0,.slice none 0 0],No8 u:=n9 (h:=0) (o:=0) (hp:=0) (md:=0) (pr:=0) (ag:=0) (ai:=0)
theorem item_new (W:World) (x y z:Value):Box3 (W.alloc (.cells #[x,y,z] 161)) W.heap.size 161 x y z∧Below W.heap.size W (W.alloc (.cells #[x,y,z] 161)) :=
 ⟨Box3.new W 161 x y z,(Below.refl _ _).alloc (Nat.le_refl _) _⟩
def DecF (b:List Nat) (w:World) (e:Ending) (w':World):Prop:=∃ va vn,e=.returned (.tuple #[va,vn])∧Attrs w' va (outA (decodeA b)).1∧Note w' vn (outA (decodeA b)).2∧Below w.heap.size w w'
theorem segs_lower {t:TypeId} {n m:Nat} {W:World} {v:Value} {p:List Piece} (h:OwnSegsF t n n W v p) (hm:m≤n):OwnSegsF t m m W v p:=by
 obtain ⟨q,h1,h2,h3,h4⟩:=h
 exact ⟨q,own_base h1 hm,h2,h3,fun x hx b off k c e h0=>Nat.le_trans hm (h4 x hx b off k c e h0)⟩
def DecG (b:List Nat) (w:World) (e:Ending) (w':World):Prop:=∃ va vn,e=.returned (.tuple #[va,vn])∧AtF w.heap.size w' va (outA (decodeA b)).1∧Note w' vn (outA (decodeA b)).2∧Below w.heap.size w w'
theorem atF_zero (n:Nat) (W:World):AtF n W (.agg #[.int .i64 0,.int .i64 0,.slice none 0 0,.int .u32 0,.int .u32 0,.int .u32 0,.int .u32 0,.int .u32 0,.slice none 0 0]) zeroA :=
 ⟨zeroA_ok,.slice none 0 0,.slice none 0 0,rfl,nil_segsF _ _ _,U32s.nil W,NewAt.nil _⟩
theorem dec_bad {b:List Nat} {w W:World} {n:No} {sub:Nat} {A:Option Addr} {m c:Nat} (h9:Box9 W w.heap.size 29 (.int .i64 0) (.int .i64 0) (.slice none 0 0) (.int .u32 0) (.int .u32 0) (.int .u32 0) (.int .u32 0) (.int .u32 0) (.slice none 0 0)) (h3:Box3 W (w.heap.size+1) 34 (.int .i64 0) (.int .i64 0) (.slice none 0 0)) (hb:Below w.heap.size w W)
  (hd:decodeA b=.inl n) (hn:Note W (.agg #[.int .i64 3,.int .i64 sub,.slice A m c]) n) :
  DecG b w (.returned (.tuple #[.agg #[.int .i64 0,.int .i64 0,.slice none 0 0,.int .u32 0,.int .u32 0,.int .u32 0,.int .u32 0,.int .u32 0,.slice none 0 0],.agg #[.int .i64 3,.int .i64 sub,.slice A m c]])) (three (nine W w.heap.size (.int .i64 0) (.int .i64 0) (.slice none 0 0) (.int .u32 0) (.int .u32 0) (.int .u32 0) (.int .u32 0) (.int .u32 0) (.slice none 0 0)) (w.heap.size+1) (.int .i64 3) (.int .i64 sub) (.slice A m c)):=by
 obtain ⟨k1,k2,k3,k4,k5⟩:=dec_end h9 h3 hb (.int .i64 0) (.int .i64 0) (.slice none 0 0) (.int .u32 0) (.int .u32 0) (.int .u32 0) (.int .u32 0) (.int .u32 0) (.slice none 0 0) (.int .i64 3) (.int .i64 sub) (.slice A m c)
 have ho1:=nine_off W w.heap.size (.int .i64 0) (.int .i64 0) (.slice none 0 0) (.int .u32 0) (.int .u32 0) (.int .u32 0) (.int .u32 0) (.int .u32 0) (.slice none 0 0)
 obtain ⟨g1,g2,vd,g3,g4⟩:=hn
 injection g3 with g3
 have g5:vd=.slice A m c:=by
  have:=congrArg (fun x:Array Value=>x[2]?) g3
  simpa using this.symm
 subst g5
 have m9:Box9 (nine W w.heap.size (.int .i64 0) (.int .i64 0) (.slice none 0 0) (.int .u32 0) (.int .u32 0) (.int .u32 0) (.int .u32 0) (.int .u32 0) (.slice none 0 0)) w.heap.size 29 (.int .i64 0) (.int .i64 0) (.slice none 0 0) (.int .u32 0) (.int .u32 0) (.int .u32 0) (.int .u32 0) (.int .u32 0) (.slice none 0 0):=((((((((h9.set0 _).set1 _).set2 _).set3 _).set4 _).set5 _).set6 _).set7 _).set8 _
 have u1:U8s (nine W w.heap.size (.int .i64 0) (.int .i64 0) (.slice none 0 0) (.int .u32 0) (.int .u32 0) (.int .u32 0) (.int .u32 0) (.int .u32 0) (.slice none 0 0)) (.slice A m c) n.data:=u8_apart g4 (h9.no8 n9z) (fun k hk=>?_) ho1.2
 ·have u2:=u8_apart u1 ((dec_mid h3 (.int .i64 0) (.int .i64 0) (.slice none 0 0) (.int .u32 0) (.int .u32 0) (.int .u32 0) (.int .u32 0) (.int .u32 0) (.slice none 0 0)).no8 (no8_i _) (no8_i _) (no8_s _ _ _)) (three_off _ _ _ _ _).1 (three_off _ _ (.int .i64 3) (.int .i64 sub) (.slice A m c)).2
  refine ⟨_,_,rfl,?_,?_,k5⟩
  ·rw [hd];exact atF_zero _ _
  ·rw [hd];exact ⟨g1,g2,_,congrArg Value.agg g3,u2⟩
 ·have hne:∀ i:Nat,k≠(⟨w.heap.size,i,none⟩:Addr).block:=fun i=>hk
  unfold nine
  simp only [Go.RowKit.Below.heap_setCell _ _ _ _ (hne _)]
theorem note_form {W:World} {v:Value} {n:No} (h:Note W v n):∃ vd,v=.agg #[.int .i64 n.code,.int .i64 n.sub,vd]∧U8s W vd n.data:=let ⟨_,_,vd,h3,h4⟩:=h;⟨vd,h3,h4⟩
theorem note_zero (W:World):Note W (.agg #[.int .i64 0,.int .i64 0,.slice none 0 0]) noneN:=⟨by decide,by decide,_,rfl,U8s.nil _⟩
theorem note_three (W:World) (s:Nat) (hs:s<256):Note W (.agg #[.int .i64 3,.int .i64 s,.slice none 0 0]) ⟨3,s,[]⟩:=⟨show (Lit.int .i64 3).wf=true by decide,by simp [Lit.wf,IntKind.min,IntKind.max,IntKind.signed,IntKind.bits];omega,_,rfl,U8s.nil _⟩
theorem Fine.off {seen:List Nat} {a:At} (h:Fine seen a) {k:Nat} (hk:k ∉ seen):a.has / 2 ^ k % 2=0:=by
 by_cases h8:k≤8
 ·exact h.free k h8 hk
 ·have h1:(2:Int) ^ k=((2 ^ k:Nat):Int):=by simp
  have h2:512≤2 ^ k:=Nat.le_trans (by decide:512≤2 ^ 9) (Nat.pow_le_pow_right (by omega) (by omega))
  rw [h1,Int.ediv_eq_zero_of_lt h.h0 (by have:=h.h5;omega)]
  rfl
theorem sub_bound (f k:Nat) (v:List Nat):subOf f k v<256∧subOf f k v≠1:=by
 by_cases hk:k<1∨8<k
 ·unfold subOf
  rw [if_pos hk]
  split <;> exact ⟨by omega,by omega⟩
 ·rw [sub_known hk]
  unfold fillN
  cases pathIs v <;> dsimp only <;> (repeat' split) <;> exact ⟨by omega,by omega⟩
theorem decode_g (v:Value) (b:List Nat) (w:World) (hv:U8s w v b) (hl:b.length≤100000) (hS:Shp w) :
  Calls Tryz.prog 92 #[v] w (DecG b w):=by
 have D0:=hid (dec_boxes w)
 have CN:=hid (new_any v b _ (hv.keep ((D0.out.low).mono (Nat.le_refl _))) (by omega))
 have HS:=hid hS
 have HB:=hid (And.intro hv.2 hl)
 clear hv hl hS
 go_enter Tryz.func92,Tryz.ntmps92
 go_wp2_with (go_at_call 81;refine (CN.out).mono ?_;rintro e w1 ⟨B,rfl,hR,hb⟩;have ST0:=hid (D0.out.start hR hb);clear hR hb)
 obtain ⟨N,hN⟩:∃ N,N=w1.heap.size:=⟨_,rfl⟩
 rw [← hN] at ST0
 clear hN D0 CN
 go_loopw [8] (fun _ wx=>∃ (l seen:List Nat) (a:At),Hid (Small l∧l.length≤b.length∧decodeA b=decF seen a l∧Fine seen a)∧Hid (DcSt w B N seen a ⟨l,false⟩ wx)) (fun _ wx=>cellLen wx B)
 case atStart=>exact ⟨b,[],zeroA,hid ⟨HB.out.1,Nat.le_refl _,rfl,fine_zero⟩,ST0⟩
 case round =>
  obtain ⟨l,seen,a,HI,ST⟩:=hrel
  have CL:=hid (left_any _ _ _ _ _ _ wr ST.out.rd)
  dsimp only at CL
  by_cases hne:l=[]
  ·subst hne
   have e0:¬ ((([]:List Nat).length:Nat):Int) > 0:=by simp
   obtain ⟨hok,hlt,Ap,np,cp,Ac,nc,cc,b9,hp,hc,hn⟩:=ST.out.box
   have HDC:=hid (show decodeA b=.inr (normA a) from HI.out.2.2.1)
   have CM:=hid (fun (W:World) (h:Below wr.heap.size wr W)=>pnormA_any (.agg #[.int .i64 a.has,.int .i64 a.origin,.slice Ap np cp,.int .u32 (a.hop:Nat),.int .u32 (a.med:Nat),.int .u32 (a.pref:Nat),.int .u32 (a.aas:Nat),.int .u32 (a.aid:Nat),.slice Ac nc cc]) a W ⟨hok,_,_,rfl,(hp.keep h).segs,hc.keep h⟩ HI.out.2.2.2.bk HI.out.2.2.2.fit HI.out.2.2.2.cm)
   obtain ⟨c0,c1,c2,c3,c4,c5,c6,c7,c8⟩:=b9.cells
   have H9:=hid b9
   clear b9 hp hc hn hok
   generalize normA a=q at CM HDC
   go_wp2_with (first
    | (go_at_call 87;refine (CL.out).mono ?_;rintro e x ⟨rfl,hb⟩;have S1:=hid (And.intro (ST.out.below hb) hb);clear c0 c1 c2 c3 c4 c5 c6 c7 c8;obtain ⟨c0,c1,c2,c3,c4,c5,c6,c7,c8⟩:=(H9.out.keep hb).cells;clear hb)
    | (go_at_call 139;(refine (CM.out _ S1.out.2).mono ?_;rintro e y ⟨_,rfl,⟨hq,vp,vc,rfl,hP,hC,hN⟩,hb⟩;have S2:=hid (S1.out.1.below hb);obtain ⟨ap,cp2,rfl⟩:=hP.form;obtain ⟨ac,cc2,rfl,-,-,-,-⟩:=hC.open_;have HQ:=hid (And.intro hq (And.intro hP (And.intro hC (And.intro hN S1.out.1.lts.2.1))));obtain ⟨q0,q1,q2,q3,q4,q5,q6,q7,q8⟩:=q;dsimp only [acells];clear hb hq hP hC hN c0 c1 c2 c3 c4 c5 c6 c7 c8;obtain ⟨c0,c1,c2,c3,c4,c5,c6,c7,c8⟩:=S2.out.r9.cells;have f9:=S2.out.r9.free;obtain ⟨d0,d1,d2⟩:=(dec_mid S2.out.n3 (.int .i64 q0) (.int .i64 q1) (.slice ap q2.length cp2) (.int .u32 q3) (.int .u32 q4) (.int .u32 q5) (.int .u32 q6) (.int .u32 q7) (.slice ac q8.length cc2)).cells;have f3:=(dec_mid S2.out.n3 (.int .i64 q0) (.int .i64 q1) (.slice ap q2.length cp2) (.int .u32 q3) (.int .u32 q4) (.int .u32 q5) (.int .u32 q6) (.int .u32 q7) (.slice ac q8.length cc2)).free;unfold nine at d0 d1 d2 f3)))
   obtain ⟨k1,k2,k3,k4,k5⟩:=dec_end S2.out.r9 S2.out.n3 S2.out.low (.int .i64 q0) (.int .i64 q1) (.slice ap q2.length cp2) (.int .u32 q3) (.int .u32 q4) (.int .u32 q5) (.int .u32 q6) (.int .u32 q7) (.slice ac q8.length cc2) (.int .i64 0) (.int .i64 0) (.slice none 0 0)
   have K:=hid (And.intro k3 (And.intro k4 k5))
   obtain ⟨r0,r1,r2,r3,r4,r5,r6,r7,r8⟩:=k1.cells
   obtain ⟨m0,m1,m2⟩:=k2.cells
   clear k1 k2 k3 k4 k5 c0 c1 c2 c3 c4 c5 c6 c7 c8 d0 d1 d2 f3 f9
   unfold three nine at r0 r1 r2 r3 r4 r5 r6 r7 r8 m0 m1 m2
   refine bodyPost_ret (v:=.tuple #[.agg #[.int .i64 q0,.int .i64 q1,.slice ap q2.length cp2,.int .u32 q3,.int .u32 q4,.int .u32 q5,.int .u32 q6,.int .u32 q7,.slice ac q8.length cc2],.agg #[.int .i64 0,.int .i64 0,.slice none 0 0]]) (by simp [results,Tryz.results92,go_sem,r0,r1,r2,r3,r4,r5,r6,r7,r8,m0,m1,m2]) rfl ?_
   refine ⟨_,_,rfl,?_,?_,K.out.2.2⟩
   ·rw [HDC.out]
    have hz:=HQ.out.2.2.2.2
    exact ⟨HQ.out.1,_,_,rfl,segs_lower (segs_off HQ.out.2.1 (fun k hk=>K.out.1 k (by omega)) K.out.2.1) (by omega),u32_off HQ.out.2.2.1 HQ.out.2.2.2.1 (fun k hk=>K.out.1 k (by omega)) K.out.2.1,NewAt.lower HQ.out.2.2.2.1 (by omega)⟩
   ·rw [HDC.out]
    exact note_zero _
  ·have z1:((l.length:Nat):Int) > 0:=by
    have:=List.length_pos_iff.2 hne
    omega
   have hsm:=HI.out.1
   cases hit:itemOf l with
   | none =>
    have HDC:=hid (HI.out.2.2.1.trans (decF_none hne hit))
    have CX:=hid (fun (W:World) (h:R W (w.heap.size+4) N (.pointer (some ⟨B,0,none⟩)) l false (fun q=>q=B)) (hn:N≤W.heap.size)=>next_any (.pointer (some ⟨B,0,none⟩)) (w.heap.size+4) N l (fun q=>q=B) W hsm h hn)
    unfold NextF at CX
    have hrb:=next_none hit
    generalize nxF l=xf at CX
    generalize nxK l=xk at CX
    generalize nxV l=xv at CX
    generalize nxR l=nr at CX hrb
    obtain ⟨xr,rb⟩:=nr
    dsimp only at CX hrb
    subst hrb
    clear hit hsm
    go_wp2_with (first
     | (go_at_call 87;refine (CL.out).mono ?_;rintro e x0 ⟨rfl,hb⟩;have S1:=hid (ST.out.below hb);clear hb)
     | (have h:=S1.out;go_at_call 136;(refine (CX.out _ h.rd h.box.lt.2).mono ?_;rintro e x1 ⟨A,c,rfl,hU,hR,ho⟩;obtain ⟨i1,i2⟩:=item_new x1 (.int .i64 xf) (.int .i64 xk) (.slice A xv.length c);have S3:=hid ((h.read (y:=⟨xr,true⟩) hR ho).below i2);have D3:=hid i1;have U3:=hid (hU.keep i2);have Z3:=hid (Nat.lt_of_lt_of_le h.lts.2.2.1 ho.size);clear h hU hR ho S1;obtain ⟨d0,d1,d2⟩:=i1.cells;clear i1 i2))
     | (have h:=S3.out;go_at_call 85;(refine (bad_any _ _ _ _ _ _ _ h.rd).mono ?_;rintro e x2 ⟨rfl,hb⟩;have S4:=hid (h.below hb);have D4:=hid (D3.out.keep hb);have U4:=hid (U3.out.keep hb);clear hb h S3 D3 U3 d0 d1 d2;obtain ⟨d0,d1,d2⟩:=D4.out.cells))
     | (go_at_call 137;(refine (notice_none _ _ A _ c 1 _ (.inl rfl)).mono ?_;rintro e x3 ⟨rfl,hb⟩;have S5:=hid (S4.out.below hb);clear hb S4 d0 d1 d2;obtain ⟨c0,c1,c2,c3,c4,c5,c6,c7,c8⟩:=S5.out.r9.cells;have f9:=S5.out.r9.free;obtain ⟨m0,m1,m2⟩:=(dec_mid S5.out.n3 (.int .i64 0) (.int .i64 0) (.slice none 0 0) (.int .u32 0) (.int .u32 0) (.int .u32 0) (.int .u32 0) (.int .u32 0) (.slice none 0 0)).cells;have f3:=(dec_mid S5.out.n3 (.int .i64 0) (.int .i64 0) (.slice none 0 0) (.int .u32 0) (.int .u32 0) (.int .u32 0) (.int .u32 0) (.int .u32 0) (.slice none 0 0)).free;unfold nine at m0 m1 m2 f3)))
    obtain ⟨k1,k2,-⟩:=dec_end S5.out.r9 S5.out.n3 S5.out.low (.int .i64 0) (.int .i64 0) (.slice none 0 0) (.int .u32 0) (.int .u32 0) (.int .u32 0) (.int .u32 0) (.int .u32 0) (.slice none 0 0) (.int .i64 3) (.int .i64 1) (.slice none 0 0)
    obtain ⟨r0,r1,r2,r3,r4,r5,r6,r7,r8⟩:=k1.cells
    obtain ⟨t0,t1,t2⟩:=k2.cells
    clear k1 k2 c0 c1 c2 c3 c4 c5 c6 c7 c8 m0 m1 m2 f3 f9
    unfold three nine at r0 r1 r2 r3 r4 r5 r6 r7 r8 t0 t1 t2
    refine bodyPost_ret (by simp [results,Tryz.results92,go_sem,r0,r1,r2,r3,r4,r5,r6,r7,r8,t0,t1,t2]) rfl (dec_bad S5.out.r9 S5.out.n3 S5.out.low HDC.out (note_three _ 1 (by decide)))
   | some x =>
    obtain ⟨xf,xk,xv,xr⟩:=x
    obtain ⟨hx1,hx2,hx3,hx4⟩:=next_some hit
    obtain ⟨hf1,hk1,hv1,hv2,hv3,hr1,hr2,hr3⟩:=item_facts hsm hit
    have HDF:=hid (HI.out.2.2.1.trans (decF_some hsm hit))
    dsimp only at hx1 hx2 hx3 hx4 hf1 hk1 hv1 hv2 hv3 hr1 hr2 hr3 HDF
    have CX:=hid (fun (W:World) (h:R W (w.heap.size+4) N (.pointer (some ⟨B,0,none⟩)) l false (fun q=>q=B)) (hn:N≤W.heap.size)=>next_any (.pointer (some ⟨B,0,none⟩)) (w.heap.size+4) N l (fun q=>q=B) W hsm h hn)
    unfold NextF at CX
    rw [hx1,hx2,hx3,hx4] at CX
    dsimp only at CX
    have HF:=hid (And.intro hf1 (And.intro hk1 (And.intro hv1 (And.intro hv2 hv3))))
    have HR:=hid (And.intro hr1 (And.intro hr2 hr3))
    have z2:(0:Int)≤(xk:Int):=by omega
    have z3:(xk:Int)<256:=by omega
    have CE:=hid (fun (W:World) (a:At) (x:Rd) (seen:List Nat) (h:DcSt w B N seen a x W)=>show W.cell? ⟨w.heap.size+1+1+1,xk,none⟩=some (.bool (decide (xk∈seen)))∧W.frozen? ⟨w.heap.size+1+1+1,xk,none⟩=false from h.seen_cell HF.out.2.1)
    clear hit hsm hx1 hx2 hx3 hx4 hf1 hk1 hv1 hv2 hv3 hr1 hr2 hr3
    by_cases hse:xk∈seen
    ·have HDC:=hid (HDF.out.trans (if_pos hse))
     have hd:decide (xk∈seen)=true:=decide_eq_true hse
     clear HDF hse
     go_wp2_with (first
      | (go_at_call 87;refine (CL.out).mono ?_;rintro e x0 ⟨rfl,hb⟩;have S1:=hid (ST.out.below hb);clear hb)
      | (have h:=S1.out;go_at_call 136;(refine (CX.out _ h.rd h.box.lt.2).mono ?_;rintro e x1 ⟨A,c,rfl,hU,hR,ho⟩;obtain ⟨i1,i2⟩:=item_new x1 (.int .i64 xf) (.int .i64 xk) (.slice A xv.length c);have S3:=hid ((h.read (y:=⟨xr,false⟩) hR ho).below i2);have D3:=hid i1;have U3:=hid (hU.keep i2);have Z3:=hid (Nat.lt_of_lt_of_le h.lts.2.2.1 ho.size);clear h hU hR ho S1;obtain ⟨d0,d1,d2⟩:=i1.cells;clear i1 i2))
      | (have h:=S3.out;go_at_call 85;(refine (bad_any _ _ _ _ _ _ _ h.rd).mono ?_;rintro e x2 ⟨rfl,hb⟩;have S4:=hid (h.below hb);have D4:=hid (D3.out.keep hb);have U4:=hid (U3.out.keep hb);clear hb h S3 D3 U3 d0 d1 d2;obtain ⟨d0,d1,d2⟩:=D4.out.cells;obtain ⟨s0,s1⟩:=CE.out _ _ _ _ S4.out;rw [hd] at s0))
      | (go_at_call 137;(refine (notice_none _ _ A _ c 1 _ (.inl rfl)).mono ?_;rintro e x3 ⟨rfl,hb⟩;have S5:=hid (S4.out.below hb);clear hb S4 d0 d1 d2;obtain ⟨c0,c1,c2,c3,c4,c5,c6,c7,c8⟩:=S5.out.r9.cells;have f9:=S5.out.r9.free;obtain ⟨m0,m1,m2⟩:=(dec_mid S5.out.n3 (.int .i64 0) (.int .i64 0) (.slice none 0 0) (.int .u32 0) (.int .u32 0) (.int .u32 0) (.int .u32 0) (.int .u32 0) (.slice none 0 0)).cells;have f3:=(dec_mid S5.out.n3 (.int .i64 0) (.int .i64 0) (.slice none 0 0) (.int .u32 0) (.int .u32 0) (.int .u32 0) (.int .u32 0) (.int .u32 0) (.slice none 0 0)).free;unfold nine at m0 m1 m2 f3)))
     obtain ⟨k1,k2,-⟩:=dec_end S5.out.r9 S5.out.n3 S5.out.low (.int .i64 0) (.int .i64 0) (.slice none 0 0) (.int .u32 0) (.int .u32 0) (.int .u32 0) (.int .u32 0) (.int .u32 0) (.slice none 0 0) (.int .i64 3) (.int .i64 1) (.slice none 0 0)
     obtain ⟨r0,r1,r2,r3,r4,r5,r6,r7,r8⟩:=k1.cells
     obtain ⟨t0,t1,t2⟩:=k2.cells
     clear k1 k2 c0 c1 c2 c3 c4 c5 c6 c7 c8 m0 m1 m2 f3 f9
     unfold three nine at r0 r1 r2 r3 r4 r5 r6 r7 r8 t0 t1 t2
     refine bodyPost_ret (by simp [results,Tryz.results92,go_sem,r0,r1,r2,r3,r4,r5,r6,r7,r8,t0,t1,t2]) rfl (dec_bad S5.out.r9 S5.out.n3 S5.out.low HDC.out (note_three _ 1 (by decide)))
    ·have hd:decide (xk∈seen)=false:=decide_eq_false hse
     have HD2:=hid (HDF.out.trans (if_neg hse))
     have CRD:=hid (fun (A:Option Addr) (c:Nat) (W:World) (seen2:List Nat) (h:DcSt w B N seen2 a ⟨xr,false⟩ W) (hu:U8s W (.slice A xv.length c) xv)=>show Calls Tryz.prog 138 #[.agg #[.int .i64 xf,.int .i64 xk,.slice A xv.length c],.pointer (some ⟨w.heap.size+1+1,0,none⟩)] W (ReadF (w.heap.size+2) N a xf xk xv W) from read_any xf xk A c xv W (w.heap.size+2) N a h.box hu (HS.out.keep h.low) HF.out.1 HF.out.2.2.1 HI.out.2.2.2.h0 HI.out.2.2.2.h5 (HI.out.2.2.2.off hse))
     unfold ReadF at CRD
     have HFL:=hid (fun (h:subOf xf xk xv=0)=>HI.out.2.2.2.lay HF.out.2.2.2.2 HF.out.2.2.1 hse h)
     clear HDF
     by_cases hs0:subOf xf xk xv=0
     ·have HDC:=hid (HD2.out.trans (if_pos hs0))
      have HFN:=hid (HFL.out hs0)
      rw [hs0] at CRD
      clear hs0 HD2 HFL hse
      go_wp2_with (first
       | (go_at_call 87;refine (CL.out).mono ?_;rintro e x0 ⟨rfl,hb⟩;have S1:=hid (ST.out.below hb);clear hb)
       | (have h:=S1.out;go_at_call 136;(refine (CX.out _ h.rd h.box.lt.2).mono ?_;rintro e x1 ⟨A,c,rfl,hU,hR,ho⟩;obtain ⟨i1,i2⟩:=item_new x1 (.int .i64 xf) (.int .i64 xk) (.slice A xv.length c);have S3:=hid ((h.read (y:=⟨xr,false⟩) hR ho).below i2);have D3:=hid i1;have U3:=hid (hU.keep i2);have Z3:=hid (Nat.lt_of_lt_of_le h.lts.2.2.1 ho.size);clear h hU hR ho S1;obtain ⟨d0,d1,d2⟩:=i1.cells;clear i1 i2))
       | (have h:=S3.out;go_at_call 85;(refine (bad_any _ _ _ _ _ _ _ h.rd).mono ?_;rintro e x2 ⟨rfl,hb⟩;have S4:=hid (h.below hb);have D4:=hid (D3.out.keep hb);have U4:=hid (U3.out.keep hb);clear hb h S3 D3 U3 d0 d1 d2;obtain ⟨d0,d1,d2⟩:=D4.out.cells;obtain ⟨s0,s1⟩:=CE.out _ _ _ _ S4.out;rw [hd] at s0;have S5:=hid (show DcSt w B N (xk :: seen) a ⟨xr,false⟩ (x2.setCell ⟨w.heap.size+1+1+1,xk,none⟩ (.bool true)) from S4.out.mark HF.out.2.1);have D5:=hid (D4.out.far (i:=xk) (C:=w.heap.size+1+1+1) (by have:=Z3.out;omega) (.bool true));have U5:=hid (u8_only U4.out (seen_no8 S4.out.sn) (Only.set (F:=fun q=>q=w.heap.size+3) (b:=w.heap.size+3) (i:=xk) (Only.refl _ _) rfl (.bool true)));obtain ⟨e0,e1,e2⟩:=D5.out.cells))
       | (have h:=S5.out;go_at_call 138;(refine (CRD.out A c _ _ h U5.out).mono ?_;rintro e x3 ⟨rfl,ho,hg⟩;have S6:=hid (h.fill ho (hg (by first | rfl | trivial)));clear h ho hg S5 S4 D5 D4 U5 U4 d0 d1 d2 e0 e1 e2 s0 s1)))
      go_roundw
      case rel=>exact ⟨xr,xk :: seen,layA a xk xv,hid ⟨HR.out.1,by have:=HR.out.2.1;have:=HI.out.2.1;omega,HDC.out,HFN.out⟩,S6⟩
      case measure =>
       rw [cellLen_is S6.out.rd,cellLen_is ST.out.rd]
       have:=HR.out.2.1
       dsimp only
       omega
     ·have HDC:=hid (HD2.out.trans (if_neg hs0))
      obtain ⟨hsb,hs1⟩:=sub_bound xf xk xv
      clear HD2 HFL hse
      generalize subOf xf xk xv=s at CRD HDC hs0 hsb hs1
      by_cases h11:s=11
      ·subst h11
       have HDC:=hid (show decodeA b=.inl ⟨3,(11:Nat),[]⟩ from HDC.out)
       clear hs0 hsb hs1
       go_wp2_with (first
        | (go_at_call 87;refine (CL.out).mono ?_;rintro e x0 ⟨rfl,hb⟩;have S1:=hid (ST.out.below hb);clear hb)
        | (have h:=S1.out;go_at_call 136;(refine (CX.out _ h.rd h.box.lt.2).mono ?_;rintro e x1 ⟨A,c,rfl,hU,hR,ho⟩;obtain ⟨i1,i2⟩:=item_new x1 (.int .i64 xf) (.int .i64 xk) (.slice A xv.length c);have S3:=hid ((h.read (y:=⟨xr,false⟩) hR ho).below i2);have D3:=hid i1;have U3:=hid (hU.keep i2);have Z3:=hid (Nat.lt_of_lt_of_le h.lts.2.2.1 ho.size);clear h hU hR ho S1;obtain ⟨d0,d1,d2⟩:=i1.cells;clear i1 i2))
        | (have h:=S3.out;go_at_call 85;(refine (bad_any _ _ _ _ _ _ _ h.rd).mono ?_;rintro e x2 ⟨rfl,hb⟩;have S4:=hid (h.below hb);have D4:=hid (D3.out.keep hb);have U4:=hid (U3.out.keep hb);clear hb h S3 D3 U3 d0 d1 d2;obtain ⟨d0,d1,d2⟩:=D4.out.cells;obtain ⟨s0,s1⟩:=CE.out _ _ _ _ S4.out;rw [hd] at s0;have S5:=hid (show DcSt w B N (xk :: seen) a ⟨xr,false⟩ (x2.setCell ⟨w.heap.size+1+1+1,xk,none⟩ (.bool true)) from S4.out.mark HF.out.2.1);have D5:=hid (D4.out.far (i:=xk) (C:=w.heap.size+1+1+1) (by have:=Z3.out;omega) (.bool true));have U5:=hid (u8_only U4.out (seen_no8 S4.out.sn) (Only.set (F:=fun q=>q=w.heap.size+3) (b:=w.heap.size+3) (i:=xk) (Only.refl _ _) rfl (.bool true)));obtain ⟨e0,e1,e2⟩:=D5.out.cells))
        | (have h:=S5.out;go_at_call 138;(refine (CRD.out A c _ _ h U5.out).mono ?_;rintro e x3 ⟨rfl,ho,-⟩;have L6:=hid (h.lost ho);have D6:=hid (D5.out.below (fun k e=>by subst e;exact ho.block _ D5.out.lt (by have:=Z3.out;omega)));obtain ⟨-,-,Ap,np,cp,Ac,nc,cc,b9,-,-,-⟩:=h.box;have U6:=hid (u8_only U5.out (b9.no8 n9) ho);clear h ho b9 S5 S4 D5 D4 U5 U4 d0 d1 d2 e0 e1 e2 s0 s1;obtain ⟨d0,d1,d2⟩:=D6.out.cells))
        | (go_at_call 137;(refine (notice_none _ _ A _ c 11 _ (.inr rfl)).mono ?_;rintro e x4 ⟨rfl,hb⟩;have L7:=hid (And.intro (L6.out.1.keep hb) (And.intro (L6.out.2.1.keep hb) (L6.out.2.2.trans (hb.mono L6.out.2.2.size))));clear hb d0 d1 d2;obtain ⟨c0,c1,c2,c3,c4,c5,c6,c7,c8⟩:=L7.out.1.cells;have f9:=L7.out.1.free;obtain ⟨m0,m1,m2⟩:=(dec_mid L7.out.2.1 (.int .i64 0) (.int .i64 0) (.slice none 0 0) (.int .u32 0) (.int .u32 0) (.int .u32 0) (.int .u32 0) (.int .u32 0) (.slice none 0 0)).cells;have f3:=(dec_mid L7.out.2.1 (.int .i64 0) (.int .i64 0) (.slice none 0 0) (.int .u32 0) (.int .u32 0) (.int .u32 0) (.int .u32 0) (.int .u32 0) (.slice none 0 0)).free;unfold nine at m0 m1 m2 f3)))
       obtain ⟨k1,k2,-⟩:=dec_end L7.out.1 L7.out.2.1 L7.out.2.2 (.int .i64 0) (.int .i64 0) (.slice none 0 0) (.int .u32 0) (.int .u32 0) (.int .u32 0) (.int .u32 0) (.int .u32 0) (.slice none 0 0) (.int .i64 3) (.int .i64 11) (.slice none 0 0)
       obtain ⟨r0,r1,r2,r3,r4,r5,r6,r7,r8⟩:=k1.cells
       obtain ⟨t0,t1,t2⟩:=k2.cells
       clear k1 k2 c0 c1 c2 c3 c4 c5 c6 c7 c8 m0 m1 m2 f3 f9
       unfold three nine at r0 r1 r2 r3 r4 r5 r6 r7 r8 t0 t1 t2
       refine bodyPost_ret (by simp [results,Tryz.results92,go_sem,r0,r1,r2,r3,r4,r5,r6,r7,r8,t0,t1,t2]) rfl (dec_bad L7.out.1 L7.out.2.1 L7.out.2.2 HDC.out (note_three _ 11 (by decide)))
      ·have y1:((s:Int) != 0)=true:=by simp;omega
       have HDC:=hid (show decodeA b=.inl ⟨3,s,itemB xf xk xv⟩ from HDC.out.trans (by unfold badN;rw [if_neg h11]))
       have CND:=hid (fun (A:Option Addr) (c:Nat) (W:World) (hu:U8s W (.slice A xv.length c) xv)=>notice_data xf xk A xv c s W hu HF.out.1 HF.out.2.1 HF.out.2.2.1 HF.out.2.2.2.1 hs1 h11 hsb)
       generalize itemB xf xk xv=M at HDC CND
       clear hs0 hsb hs1 h11
       go_wp2_with (first
        | (go_at_call 87;refine (CL.out).mono ?_;rintro e x0 ⟨rfl,hb⟩;have S1:=hid (ST.out.below hb);clear hb)
        | (have h:=S1.out;go_at_call 136;(refine (CX.out _ h.rd h.box.lt.2).mono ?_;rintro e x1 ⟨A,c,rfl,hU,hR,ho⟩;obtain ⟨i1,i2⟩:=item_new x1 (.int .i64 xf) (.int .i64 xk) (.slice A xv.length c);have S3:=hid ((h.read (y:=⟨xr,false⟩) hR ho).below i2);have D3:=hid i1;have U3:=hid (hU.keep i2);have Z3:=hid (Nat.lt_of_lt_of_le h.lts.2.2.1 ho.size);clear h hU hR ho S1;obtain ⟨d0,d1,d2⟩:=i1.cells;clear i1 i2))
        | (have h:=S3.out;go_at_call 85;(refine (bad_any _ _ _ _ _ _ _ h.rd).mono ?_;rintro e x2 ⟨rfl,hb⟩;have S4:=hid (h.below hb);have D4:=hid (D3.out.keep hb);have U4:=hid (U3.out.keep hb);clear hb h S3 D3 U3 d0 d1 d2;obtain ⟨d0,d1,d2⟩:=D4.out.cells;obtain ⟨s0,s1⟩:=CE.out _ _ _ _ S4.out;rw [hd] at s0;have S5:=hid (show DcSt w B N (xk :: seen) a ⟨xr,false⟩ (x2.setCell ⟨w.heap.size+1+1+1,xk,none⟩ (.bool true)) from S4.out.mark HF.out.2.1);have D5:=hid (D4.out.far (i:=xk) (C:=w.heap.size+1+1+1) (by have:=Z3.out;omega) (.bool true));have U5:=hid (u8_only U4.out (seen_no8 S4.out.sn) (Only.set (F:=fun q=>q=w.heap.size+3) (b:=w.heap.size+3) (i:=xk) (Only.refl _ _) rfl (.bool true)));obtain ⟨e0,e1,e2⟩:=D5.out.cells))
        | (have h:=S5.out;go_at_call 138;(refine (CRD.out A c _ _ h U5.out).mono ?_;rintro e x3 ⟨rfl,ho,-⟩;have L6:=hid (h.lost ho);have D6:=hid (D5.out.below (fun k e=>by subst e;exact ho.block _ D5.out.lt (by have:=Z3.out;omega)));obtain ⟨-,-,Ap,np,cp,Ac,nc,cc,b9,-,-,-⟩:=h.box;have U6:=hid (u8_only U5.out (b9.no8 n9) ho);clear h ho b9 S5 S4 D5 D4 U5 U4 d0 d1 d2 e0 e1 e2 s0 s1;obtain ⟨d0,d1,d2⟩:=D6.out.cells))
        | (go_at_call 137;(refine (CND.out A c _ U6.out).mono ?_;rintro e x4 ⟨v4,rfl,hno,hb⟩;obtain ⟨vd,rfl,hnv⟩:=note_form hno;obtain ⟨Av,cv,rfl,-,-⟩:=hnv.form;have NO:=hid hno;have L7:=hid (And.intro (L6.out.1.keep hb) (And.intro (L6.out.2.1.keep hb) (L6.out.2.2.trans (hb.mono L6.out.2.2.size))));clear hb hno hnv d0 d1 d2;obtain ⟨c0,c1,c2,c3,c4,c5,c6,c7,c8⟩:=L7.out.1.cells;have f9:=L7.out.1.free;obtain ⟨m0,m1,m2⟩:=(dec_mid L7.out.2.1 (.int .i64 0) (.int .i64 0) (.slice none 0 0) (.int .u32 0) (.int .u32 0) (.int .u32 0) (.int .u32 0) (.int .u32 0) (.slice none 0 0)).cells;have f3:=(dec_mid L7.out.2.1 (.int .i64 0) (.int .i64 0) (.slice none 0 0) (.int .u32 0) (.int .u32 0) (.int .u32 0) (.int .u32 0) (.int .u32 0) (.slice none 0 0)).free;unfold nine at m0 m1 m2 f3)))
       obtain ⟨k1,k2,-⟩:=dec_end L7.out.1 L7.out.2.1 L7.out.2.2 (.int .i64 0) (.int .i64 0) (.slice none 0 0) (.int .u32 0) (.int .u32 0) (.int .u32 0) (.int .u32 0) (.int .u32 0) (.slice none 0 0) (.int .i64 3) (.int .i64 s) (.slice Av M.length cv)
       obtain ⟨r0,r1,r2,r3,r4,r5,r6,r7,r8⟩:=k1.cells
       obtain ⟨t0,t1,t2⟩:=k2.cells
       clear k1 k2 c0 c1 c2 c3 c4 c5 c6 c7 c8 m0 m1 m2 f3 f9
       unfold three nine at r0 r1 r2 r3 r4 r5 r6 r7 r8 t0 t1 t2
       refine bodyPost_ret (by simp [results,Tryz.results92,go_sem,r0,r1,r2,r3,r4,r5,r6,r7,r8,t0,t1,t2]) rfl (dec_bad L7.out.1 L7.out.2.1 L7.out.2.2 HDC.out NO.out)
end Att
namespace Att
open Go.RowKit Mem Segm Oct Seg Nums
structure LaSt (w0:World) (B:Nat) (y0 y1 y2 y3 y4 y5 y6 y7 y8:Value) (W:World):Prop where
 b9:Box9 W B 29 y0 y1 y2 y3 y4 y5 y6 y7 y8
 on:Only (fun q=>q=B) w0 W
section
variable {w0 W W2:World} {B:Nat} {y0 y1 y2 y3 y4 y5 y6 y7 y8 u:Value}
theorem LaSt.below (h:LaSt w0 B y0 y1 y2 y3 y4 y5 y6 y7 y8 W) (hb:Below W.heap.size W W2):LaSt w0 B y0 y1 y2 y3 y4 y5 y6 y7 y8 W2:=⟨h.b9.keep hb,h.on.trans (Only.of hb)⟩
theorem LaSt.set1 (h:LaSt w0 B y0 y1 y2 y3 y4 y5 y6 y7 y8 W) (u:Value):LaSt w0 B y0 u y2 y3 y4 y5 y6 y7 y8 (W.setCell ⟨B,1,none⟩ u):=⟨h.b9.set1 u,h.on.set rfl u⟩
theorem LaSt.set2 (h:LaSt w0 B y0 y1 y2 y3 y4 y5 y6 y7 y8 W) (u:Value):LaSt w0 B y0 y1 u y3 y4 y5 y6 y7 y8 (W.setCell ⟨B,2,none⟩ u):=⟨h.b9.set2 u,h.on.set rfl u⟩
theorem LaSt.set3 (h:LaSt w0 B y0 y1 y2 y3 y4 y5 y6 y7 y8 W) (u:Value):LaSt w0 B y0 y1 y2 u y4 y5 y6 y7 y8 (W.setCell ⟨B,3,none⟩ u):=⟨h.b9.set3 u,h.on.set rfl u⟩
theorem LaSt.set4 (h:LaSt w0 B y0 y1 y2 y3 y4 y5 y6 y7 y8 W) (u:Value):LaSt w0 B y0 y1 y2 y3 u y5 y6 y7 y8 (W.setCell ⟨B,4,none⟩ u):=⟨h.b9.set4 u,h.on.set rfl u⟩
theorem LaSt.set5 (h:LaSt w0 B y0 y1 y2 y3 y4 y5 y6 y7 y8 W) (u:Value):LaSt w0 B y0 y1 y2 y3 y4 u y6 y7 y8 (W.setCell ⟨B,5,none⟩ u):=⟨h.b9.set5 u,h.on.set rfl u⟩
theorem LaSt.set6 (h:LaSt w0 B y0 y1 y2 y3 y4 y5 y6 y7 y8 W) (u:Value):LaSt w0 B y0 y1 y2 y3 y4 y5 u y7 y8 (W.setCell ⟨B,6,none⟩ u):=⟨h.b9.set6 u,h.on.set rfl u⟩
theorem LaSt.set7 (h:LaSt w0 B y0 y1 y2 y3 y4 y5 y6 y7 y8 W) (u:Value):LaSt w0 B y0 y1 y2 y3 y4 y5 y6 u y8 (W.setCell ⟨B,7,none⟩ u):=⟨h.b9.set7 u,h.on.set rfl u⟩
theorem LaSt.set8 (h:LaSt w0 B y0 y1 y2 y3 y4 y5 y6 y7 y8 W) (u:Value):LaSt w0 B y0 y1 y2 y3 y4 y5 y6 y7 u (W.setCell ⟨B,8,none⟩ u):=⟨h.b9.set8 u,h.on.set rfl u⟩
end
def fillR (k:Nat) (v:List Nat):Nat :=
 if k=1 then (if 2<val v then 6 else 0)
 else if k=2 then (match pathIs v with | some p=>if waysP (normS p) then 0 else 11 | none=>11)
 else if k=3 then (if hopB (val v) then 0 else 8)
 else 0
def layR (a:At) (k:Nat) (v:List Nat):At :=
 ⟨a.has,if k=1 then (val v:Nat) else a.origin,if k=2 then normS ((pathIs v).getD []) else a.path,if k=3 then val v else a.hop,if k=4 then val v else a.med,if k=5 then val v else a.pref,
  if k=7 then val (v.take 4) else a.aas,if k=7 then val (v.drop 4) else a.aid,if k=8 then quads v else a.comms⟩
def LayF (B N:Nat) (a:At) (k:Nat) (v:List Nat) (w:World) (e:Ending) (w':World):Prop :=
 e=.returned (.int .i64 (fillR k v:Nat))∧Only (fun q=>q=B) w w'∧(∃ x1 x2 x3 x4 x5 x6 x7 x8,Box9 w' B 29 (.int .i64 a.has) x1 x2 x3 x4 x5 x6 x7 x8)∧(fillR k v=0→BoxA w' B N (layR a k v))
theorem quads_four {v:List Nat} (h:v.length=4):quads v=[val v]:=by
 unfold quads
 rw [h]
 have e:quadsN v (4 / 4)=quadsN v (0+1):=rfl
 rw [e,quadsN_succ]
 show [] ++ [val ((v.drop (4*0)).take 4)]=_
 rw [List.nil_append,Nat.mul_zero,List.drop_zero,List.take_of_length_le (by omega)]
theorem quads_eight {v:List Nat} (h:v.length=8):quads v=[val (v.take 4),val (v.drop 4)]:=by
 unfold quads
 rw [h]
 have e:quadsN v (8 / 4)=quadsN v (0+1+1):=rfl
 rw [e,quadsN_succ,quadsN_succ]
 show [] ++ [val ((v.drop (4*0)).take 4)] ++ [val ((v.drop (4*1)).take 4)]=_
 rw [List.nil_append,Nat.mul_zero,List.drop_zero,Nat.mul_one,List.take_of_length_le (l:=v.drop 4) (by rw [List.length_drop];omega)]
 rfl
theorem own_cells {W:World} {base n m:Nat} {A:Option Addr} {c:Nat} {e:TypeId} {xs:List Value} (h:W.ownsRow base e 1 (.slice A m c) n xs) (h0:0<n):∃ g,A=some ⟨g,0,none⟩∧base≤g∧g<W.heap.size∧∀ i x,xs[i]?=some x→W.cell? ⟨g,i,none⟩=some x:=by
 rcases h.2 with ⟨e1,e2⟩ | ⟨g,cap,cur,e,hg,hh,hn,hm,hs,ht⟩
 ·have:=h.1
  subst e2
  simp at this
  omega
 ·injection e with e1 e2 e3
  refine ⟨g,e1,hg,(Array.getElem?_eq_some_iff.1 hh).1,fun i x hx=>?_⟩
  rw [← ht,List.getElem?_take] at hx
  split at hx
  ·simpa [World.cell?,hh] using hx
  ·cases hx
theorem cell_set {W:World} {B i g j:Nat} {u x:Value} (h:W.cell? ⟨g,j,none⟩=some x) (hne:g≠B):(W.setCell ⟨B,i,none⟩ u).cell? ⟨g,j,none⟩=some x:=by
 rw [← h]
 exact World.cell?_of_block (Go.RowKit.Below.heap_setCell _ _ _ _ hne)
theorem nums_one (v:Value) (l:List Nat) (w:World) (hv:U8s w v l) (h:l.length=4):Calls Tryz.prog 165 #[v] w (fun e w'=>∃ g c,e=.returned (.slice (some ⟨g,0,none⟩) 1 c)∧1≤c∧w.heap.size≤g∧w'.cell? ⟨g,0,none⟩=some (.int .u32 (val l))∧Below w.heap.size w w') :=
 (nums8_any v l w hv (by omega)).mono fun e w' h1=>by
  obtain ⟨vn,rfl,ho,hb⟩:=h1
  rw [quads_four h] at ho
  obtain ⟨A,c,rfl⟩:=own_form ho
  obtain ⟨_,A2,c2,e2,hc,_⟩:=Row.of_own ho
  injection e2 with _ _ e3
  subst e3
  obtain ⟨g,rfl,hg,-,hcell⟩:=own_cells ho (by simp)
  exact ⟨g,c,rfl,hc,hg,hcell 0 _ rfl,hb⟩
theorem nums_two (v:Value) (l:List Nat) (w:World) (hv:U8s w v l) (h:l.length=8):Calls Tryz.prog 165 #[v] w (fun e w'=>∃ g c,e=.returned (.slice (some ⟨g,0,none⟩) 2 c)∧2≤c∧w.heap.size≤g∧w'.cell? ⟨g,0,none⟩=some (.int .u32 (val (l.take 4)))∧w'.cell? ⟨g,1,none⟩=some (.int .u32 (val (l.drop 4)))∧Below w.heap.size w w') :=
 (nums8_any v l w hv (by omega)).mono fun e w' h1=>by
  obtain ⟨vn,rfl,ho,hb⟩:=h1
  rw [quads_eight h] at ho
  obtain ⟨A,c,rfl⟩:=own_form ho
  obtain ⟨_,A2,c2,e2,hc,_⟩:=Row.of_own ho
  injection e2 with _ _ e3
  subst e3
  obtain ⟨g,rfl,hg,-,hcell⟩:=own_cells ho (by simp)
  exact ⟨g,c,rfl,hc,hg,hcell 0 _ rfl,hcell 1 _ rfl,hb⟩
theorem nums_any (v:Value) (l:List Nat) (w:World) (hv:U8s w v l) (h:l.length≤4000):Calls Tryz.prog 165 #[v] w (fun e w'=>∃ A n c,e=.returned (.slice A n c)∧U32s w' (.slice A n c) (quads l)∧NewAt w.heap.size (.slice A n c)∧Below w.heap.size w w') :=
 (nums8_any v l w hv h).mono fun e w' h1=>by
  obtain ⟨vn,rfl,ho,hb⟩:=h1
  obtain ⟨A,c,rfl⟩:=own_form ho
  exact ⟨A,_,c,rfl,U32s.of_own ho (quads_lt hv.2 _),own_new ho (Nat.le_refl _),hb⟩
theorem far_of {B N M g:Nat} (h:B<N∧N≤M) (hg:M≤g):g≠B:=by omega
theorem lay45 (m:Nat) (mi:Int) (A:Option Addr) (c:Nat) (v:List Nat) (w:World) (B N:Nat) (a:At) (hA:BoxA w B N a) (hv:U8s w (.slice A v.length c) v) (hl:v.length=4) (hm:m=4∧mi=4∨m=5∧mi=5) :
  Calls Tryz.prog 142 #[.pointer (some ⟨B,0,none⟩),.int .i64 mi,.slice A v.length c] w (LayF B N a m v w):=by
 obtain ⟨hok,hlt,Ap,np,cp,Ac,nc,cc,h9,hp,hc,hn⟩:=hA
 have HS:=hid hv.2
 have HU:=hid hv
 have HOK:=hid hok
 have HP:=hid hp
 have HC:=hid (And.intro hc hn)
 have H9:=hid h9
 obtain ⟨hh,ho,hpt,hh3,hh4,hh5,hh6,hh7,hh8⟩:=a
 dsimp only at hp h9 hc hok HP HC H9 HOK
 have HV:=hid (val32 HS.out (by omega))
 have CNM:=hid (nums_one _ v w hv hl)
 clear hv hp hc hn h9 hok hl
 rcases hm with ⟨rfl,rfl⟩ | ⟨rfl,rfl⟩
 all_goals
  go_enter Tryz.func142,Tryz.ntmps142
  go_wp2_with (go_at_call 165;refine (CNM.out).mono ?_;rintro e x ⟨g,cn,rfl,hcn,hg,n0,hb⟩;have S1:=hid ((show LaSt w B (.int .i64 hh) (.int .i64 ho) (.slice Ap np cp) (.int .u32 hh3) (.int .u32 hh4) (.int .u32 hh5) (.int .u32 hh6) (.int .u32 hh7) (.slice Ac nc cc) w from ⟨H9.out,Only.refl _ _⟩).below hb);have HG:=hid hg;have hgB:g≠B:=far_of hlt hg;clear hb hg;obtain ⟨c0,c1,c2,c3,c4,c5,c6,c7,c8⟩:=S1.out.b9.cells;have fB:=S1.out.b9.free)
  go_ret
  first | (have S2:=hid (S1.out.set4 (.int .u32 (val v)));exact ⟨rfl,S2.out.on,⟨_,_,_,_,_,_,_,_,S2.out.b9⟩,fun _=>⟨⟨HOK.out.1,HOK.out.2.1,HOK.out.2.2.1,HV.out,HOK.out.2.2.2.2⟩,⟨hlt.1,Nat.le_trans hlt.2 S2.out.on.size⟩,Ap,np,cp,Ac,nc,cc,S2.out.b9,segs_on HP.out S2.out.on (fun k e=>by subst e;exact hlt.1),u32_on HC.out.1 HC.out.2 S2.out.on (fun k e=>by subst e;exact hlt.1),HC.out.2⟩⟩) | (have S2:=hid (S1.out.set5 (.int .u32 (val v)));exact ⟨rfl,S2.out.on,⟨_,_,_,_,_,_,_,_,S2.out.b9⟩,fun _=>⟨⟨HOK.out.1,HOK.out.2.1,HOK.out.2.2.1,HOK.out.2.2.2.1,HV.out,HOK.out.2.2.2.2.2⟩,⟨hlt.1,Nat.le_trans hlt.2 S2.out.on.size⟩,Ap,np,cp,Ac,nc,cc,S2.out.b9,segs_on HP.out S2.out.on (fun k e=>by subst e;exact hlt.1),u32_on HC.out.1 HC.out.2 S2.out.on (fun k e=>by subst e;exact hlt.1),HC.out.2⟩⟩)
theorem lay4 (A:Option Addr) (c:Nat) (v:List Nat) (w:World) (B N:Nat) (a:At) (hA:BoxA w B N a) (hv:U8s w (.slice A v.length c) v) (hl:v.length=4) :
  Calls Tryz.prog 142 #[.pointer (some ⟨B,0,none⟩),.int .i64 4,.slice A v.length c] w (LayF B N a 4 v w) :=
 lay45 4 4 A c v w B N a hA hv hl (.inl ⟨rfl,rfl⟩)
theorem lay5 (A:Option Addr) (c:Nat) (v:List Nat) (w:World) (B N:Nat) (a:At) (hA:BoxA w B N a) (hv:U8s w (.slice A v.length c) v) (hl:v.length=4) :
  Calls Tryz.prog 142 #[.pointer (some ⟨B,0,none⟩),.int .i64 5,.slice A v.length c] w (LayF B N a 5 v w) :=
 lay45 5 5 A c v w B N a hA hv hl (.inr ⟨rfl,rfl⟩)
theorem lay3 (A:Option Addr) (c:Nat) (v:List Nat) (w:World) (B N:Nat) (a:At) (hA:BoxA w B N a) (hv:U8s w (.slice A v.length c) v) (hl:v.length=4) :
  Calls Tryz.prog 142 #[.pointer (some ⟨B,0,none⟩),.int .i64 3,.slice A v.length c] w (LayF B N a 3 v w):=by
 obtain ⟨hok,hlt,Ap,np,cp,Ac,nc,cc,h9,hp,hc,hn⟩:=hA
 have HS:=hid hv.2
 have HU:=hid hv
 have HOK:=hid hok
 have HP:=hid hp
 have HC:=hid (And.intro hc hn)
 have H9:=hid h9
 obtain ⟨hh,ho,hpt,hh3,hh4,hh5,hh6,hh7,hh8⟩:=a
 dsimp only at hp h9 hc hok HP HC H9 HOK
 have HV:=hid (val32 HS.out (by omega))
 have CNM:=hid (nums_one _ v w hv hl)
 have CH:=hid (fun W=>refHop8 (val v) W HV.out)
 clear hv hp hc hn h9 hok hl
 rcases hh2:hopB (val v) with _ | _
 focus
  have HE:=hid (show fillR 3 v=8 by simp [fillR,hh2])
 rotate_left
 focus
  have HE:=hid (show fillR 3 v=0 by simp [fillR,hh2])
 all_goals
  rw [hh2] at CH
  clear hh2
  unfold LayF
  rw [HE.out]
  go_enter Tryz.func142,Tryz.ntmps142
  go_wp2_with (first
   | (go_at_call 165;refine (CNM.out).mono ?_;rintro e x ⟨g,cn,rfl,hcn,hg,n0,hb⟩;have S1:=hid ((show LaSt w B (.int .i64 hh) (.int .i64 ho) (.slice Ap np cp) (.int .u32 hh3) (.int .u32 hh4) (.int .u32 hh5) (.int .u32 hh6) (.int .u32 hh7) (.slice Ac nc cc) w from ⟨H9.out,Only.refl _ _⟩).below hb);have HG:=hid hg;have hgB:g≠B:=far_of hlt hg;clear hb hg;obtain ⟨c0,c1,c2,c3,c4,c5,c6,c7,c8⟩:=S1.out.b9.cells;have fB:=S1.out.b9.free)
   | (go_at_call 124;refine (CH.out _).mono ?_;rintro e y ⟨rfl,hb⟩;have S3:=hid ((S1.out.set3 (.int .u32 (val v))).below hb);clear hb))
  go_ret
  refine ⟨rfl,S3.out.on,⟨_,_,_,_,_,_,_,_,S3.out.b9⟩,fun hz=>?_⟩
  first | exact ⟨⟨HOK.out.1,HOK.out.2.1,HV.out,HOK.out.2.2.2⟩,⟨hlt.1,Nat.le_trans hlt.2 S3.out.on.size⟩,Ap,np,cp,Ac,nc,cc,S3.out.b9,segs_on HP.out S3.out.on (fun k e=>by subst e;exact hlt.1),u32_on HC.out.1 HC.out.2 S3.out.on (fun k e=>by subst e;exact hlt.1),HC.out.2⟩ | cases hz
theorem lay6 (A:Option Addr) (c:Nat) (v:List Nat) (w:World) (B N:Nat) (a:At) (hA:BoxA w B N a) (hv:U8s w (.slice A v.length c) v) (hl:v.length≤4000) :
  Calls Tryz.prog 142 #[.pointer (some ⟨B,0,none⟩),.int .i64 6,.slice A v.length c] w (LayF B N a 6 v w):=by
 obtain ⟨hok,hlt,Ap,np,cp,Ac,nc,cc,h9,hp,hc,hn⟩:=hA
 have HOK:=hid hok
 have HP:=hid hp
 have HC:=hid (And.intro hc hn)
 have H9:=hid h9
 obtain ⟨hh,ho,hpt,hh3,hh4,hh5,hh6,hh7,hh8⟩:=a
 dsimp only at hp h9 hc hok HP HC H9 HOK
 have CNM:=hid (nums_any _ v w hv hl)
 clear hv hp hc hn h9 hok hl
 go_enter Tryz.func142,Tryz.ntmps142
 go_wp2_with (go_at_call 165;refine (CNM.out).mono ?_;rintro e x ⟨An,nn,cn,rfl,hU,hN,hb⟩;have S1:=hid ((show LaSt w B (.int .i64 hh) (.int .i64 ho) (.slice Ap np cp) (.int .u32 hh3) (.int .u32 hh4) (.int .u32 hh5) (.int .u32 hh6) (.int .u32 hh7) (.slice Ac nc cc) w from ⟨H9.out,Only.refl _ _⟩).below hb);have HN:=hid (And.intro hU hN);clear hb hU hN;obtain ⟨c0,c1,c2,c3,c4,c5,c6,c7,c8⟩:=S1.out.b9.cells;have fB:=S1.out.b9.free)
 go_ret
 refine ⟨rfl,S1.out.on,⟨_,_,_,_,_,_,_,_,S1.out.b9⟩,fun _=>?_⟩
 exact ⟨HOK.out,⟨hlt.1,Nat.le_trans hlt.2 S1.out.on.size⟩,Ap,np,cp,Ac,nc,cc,S1.out.b9,segs_on HP.out S1.out.on (fun k e=>by subst e;exact hlt.1),u32_on HC.out.1 HC.out.2 S1.out.on (fun k e=>by subst e;exact hlt.1),HC.out.2⟩
theorem lay8 (A:Option Addr) (c:Nat) (v:List Nat) (w:World) (B N:Nat) (a:At) (hA:BoxA w B N a) (hv:U8s w (.slice A v.length c) v) (hl:v.length≤4000) :
  Calls Tryz.prog 142 #[.pointer (some ⟨B,0,none⟩),.int .i64 8,.slice A v.length c] w (LayF B N a 8 v w):=by
 obtain ⟨hok,hlt,Ap,np,cp,Ac,nc,cc,h9,hp,hc,hn⟩:=hA
 have HOK:=hid hok
 have HP:=hid hp
 have HC:=hid (And.intro hc hn)
 have H9:=hid h9
 obtain ⟨hh,ho,hpt,hh3,hh4,hh5,hh6,hh7,hh8⟩:=a
 dsimp only at hp h9 hc hok HP HC H9 HOK
 have CNM:=hid (nums_any _ v w hv hl)
 clear hv hp hc hn h9 hok hl
 go_enter Tryz.func142,Tryz.ntmps142
 go_wp2_with (go_at_call 165;refine (CNM.out).mono ?_;rintro e x ⟨An,nn,cn,rfl,hU,hN,hb⟩;have S1:=hid ((show LaSt w B (.int .i64 hh) (.int .i64 ho) (.slice Ap np cp) (.int .u32 hh3) (.int .u32 hh4) (.int .u32 hh5) (.int .u32 hh6) (.int .u32 hh7) (.slice Ac nc cc) w from ⟨H9.out,Only.refl _ _⟩).below hb);have HN:=hid (And.intro hU hN);clear hb hU hN;obtain ⟨c0,c1,c2,c3,c4,c5,c6,c7,c8⟩:=S1.out.b9.cells;have fB:=S1.out.b9.free)
 have S2:=hid (S1.out.set8 (.slice An nn cn))
 go_ret
 refine ⟨rfl,S2.out.on,⟨_,_,_,_,_,_,_,_,S2.out.b9⟩,fun _=>?_⟩
 exact ⟨HOK.out,⟨hlt.1,Nat.le_trans hlt.2 S2.out.on.size⟩,Ap,np,cp,An,nn,cn,S2.out.b9,segs_on HP.out S2.out.on (fun k e=>by subst e;exact hlt.1),u32_off HN.out.1 (HN.out.2.lower hlt.2) (off_set _ hlt.1) (by simp),HN.out.2.lower hlt.2⟩
theorem lay1 (A:Option Addr) (c:Nat) (v:List Nat) (w:World) (B N:Nat) (a:At) (hA:BoxA w B N a) (hv:U8s w (.slice A v.length c) v) (hl:v.length=1) :
  Calls Tryz.prog 142 #[.pointer (some ⟨B,0,none⟩),.int .i64 1,.slice A v.length c] w (LayF B N a 1 v w):=by
 obtain ⟨hok,hlt,Ap,np,cp,Ac,nc,cc,h9,hp,hc,hn⟩:=hA
 have HS:=hid hv.2
 have HU:=hid hv
 have HOK:=hid hok
 have HP:=hid hp
 have HC:=hid (And.intro hc hn)
 have H9:=hid h9
 obtain ⟨hh,ho,hpt,hh3,hh4,hh5,hh6,hh7,hh8⟩:=a
 dsimp only at hp h9 hc hok HP HC H9 HOK
 have CNM:=hid (nums_any _ v w hv (by omega))
 obtain ⟨b,off,o,rfl,hbl,hvo,ho8,co⟩:=hv.at_ (k:=0) (by omega)
 rw [Nat.add_zero] at co
 have hval:val v=o:=by
  match v,hl,hvo with
  | [y],_,hvo =>
   injection hvo with hvo
   subst hvo
   show 0*256+y=y
   omega
 have hoB:b≠B:=fun e=>by subst e;exact (h9.no8 n9) _ _ co
 have HKO:=hid (fun (W:World) (hb:Below w.heap.size w W)=>keeps hb co)
 have HV:=hid (show (Lit.int .i64 ((o:Nat):Int)).wf=true by simp [Lit.wf,IntKind.min,IntKind.max,IntKind.signed,IntKind.bits];omega)
 obtain ⟨L,hL⟩:∃ L,L=v.length:=⟨_,rfl⟩
 have z0:(0:Int)<(L:Int):=by omega
 rw [← hL] at CNM ⊢
 clear hv hp hc hn h9 hok hl hL hvo co
 unfold LayF layR fillR
 simp only [hval,if_true]
 clear hval
 by_cases h2:2<o
 focus
  have z1:(o:Int) > 2:=by omega
  rw [if_pos h2]
 rotate_left
 focus
  have z1:decide ((2:Int)<(o:Int))=false:=decide_eq_false (by omega)
  rw [if_neg h2]
 all_goals
  clear h2
  go_enter Tryz.func142,Tryz.ntmps142
  go_wp2_with (go_at_call 165;refine (CNM.out).mono ?_;rintro e x ⟨An,nn,cn,rfl,hU,hN,hb⟩;have S1:=hid ((show LaSt w B (.int .i64 hh) (.int .i64 ho) (.slice Ap np cp) (.int .u32 hh3) (.int .u32 hh4) (.int .u32 hh5) (.int .u32 hh6) (.int .u32 hh7) (.slice Ac nc cc) w from ⟨H9.out,Only.refl _ _⟩).below hb);have HN:=hid (And.intro hU hN);have HBX:=hid hb;clear hb hU hN;obtain ⟨c0,c1,c2,c3,c4,c5,c6,c7,c8⟩:=S1.out.b9.cells;have fB:=S1.out.b9.free;have k0:=HKO.out _ HBX.out;have k1:=cell_set (B:=B) (i:=1) (u:=.int .i64 o) k0 hoB)
  have S2:=hid (S1.out.set1 (.int .i64 o))
  go_ret
  first | exact ⟨rfl,S2.out.on,_,_,_,_,_,_,_,_,S2.out.b9⟩ | (refine ⟨rfl,S2.out.on,⟨_,_,_,_,_,_,_,_,S2.out.b9⟩,?_⟩;exact ⟨⟨HOK.out.1,HV.out,HOK.out.2.2⟩,⟨hlt.1,Nat.le_trans hlt.2 S2.out.on.size⟩,Ap,np,cp,Ac,nc,cc,S2.out.b9,segs_on HP.out S2.out.on (fun k e=>by subst e;exact hlt.1),u32_on HC.out.1 HC.out.2 S2.out.on (fun k e=>by subst e;exact hlt.1),HC.out.2⟩)
end Att
namespace Att
open Go.RowKit Mem Segm Oct Seg Nums
theorem lay7 (A:Option Addr) (c:Nat) (v:List Nat) (w:World) (B N:Nat) (a:At) (hA:BoxA w B N a) (hv:U8s w (.slice A v.length c) v) (hl:v.length=8) :
  Calls Tryz.prog 142 #[.pointer (some ⟨B,0,none⟩),.int .i64 7,.slice A v.length c] w (LayF B N a 7 v w):=by
 obtain ⟨hok,hlt,Ap,np,cp,Ac,nc,cc,h9,hp,hc,hn⟩:=hA
 have HS:=hid hv.2
 have HU:=hid hv
 have HOK:=hid hok
 have HP:=hid hp
 have HC:=hid (And.intro hc hn)
 have H9:=hid h9
 obtain ⟨hh,ho,hpt,hh3,hh4,hh5,hh6,hh7,hh8⟩:=a
 dsimp only at hp h9 hc hok HP HC H9 HOK
 have HV:=hid (val32 (HS.out.take 4) (List.length_take_le _ _))
 have HV2:=hid (val32 (HS.out.drop 4) (by rw [List.length_drop];omega))
 have CNM:=hid (nums_two _ v w hv hl)
 clear hv hp hc hn h9 hok hl
 go_enter Tryz.func142,Tryz.ntmps142
 go_wp2_with (go_at_call 165;(refine (CNM.out).mono ?_;rintro e x ⟨g,cn,rfl,hcn,hg,n0,n1,hb⟩;have S1:=hid ((show LaSt w B (.int .i64 hh) (.int .i64 ho) (.slice Ap np cp) (.int .u32 hh3) (.int .u32 hh4) (.int .u32 hh5) (.int .u32 hh6) (.int .u32 hh7) (.slice Ac nc cc) w from ⟨H9.out,Only.refl _ _⟩).below hb);have HG:=hid hg;have hgB:g≠B:=far_of hlt hg;clear hb hg))
 have SD:=hid (S1.out.below (Below.refl _ _).drew)
 replace n0:=keeps (Below.refl x.heap.size x).drew n0
 replace n1:=keeps (Below.refl x.heap.size x).drew n1
 obtain ⟨c0,c1,c2,c3,c4,c5,c6,c7,c8⟩:=SD.out.b9.cells
 have fB:=SD.out.b9.free
 obtain ⟨b0,b1,b2,b3,b4,b5,b6,b7,b8⟩:=S1.out.b9.cells
 have gB:=S1.out.b9.free
 go_region
 have S2:=hid (((S1.out.set6 (.int .u32 (val (v.take 4)))).set7 (.int .u32 (val (v.drop 4)))).below (Below.refl _ _).drew)
 go_wp2
 go_ret
 refine ⟨rfl,S2.out.on,⟨_,_,_,_,_,_,_,_,S2.out.b9⟩,fun _=>?_⟩
 exact ⟨⟨HOK.out.1,HOK.out.2.1,HOK.out.2.2.1,HOK.out.2.2.2.1,HOK.out.2.2.2.2.1,HV.out,HV2.out⟩,⟨hlt.1,Nat.le_trans hlt.2 S2.out.on.size⟩,Ap,np,cp,Ac,nc,cc,S2.out.b9,segs_on HP.out S2.out.on (fun k e=>by subst e;exact hlt.1),u32_on HC.out.1 HC.out.2 S2.out.on (fun k e=>by subst e;exact hlt.1),HC.out.2⟩
theorem lay2 (A:Option Addr) (c:Nat) (v:List Nat) (w:World) (B N:Nat) (a:At) (hA:BoxA w B N a) (hv:U8s w (.slice A v.length c) v) (hl:v.length≤1600) :
  Calls Tryz.prog 142 #[.pointer (some ⟨B,0,none⟩),.int .i64 2,.slice A v.length c] w (LayF B N a 2 v w):=by
 obtain ⟨hok,hlt,Ap,np,cp,Ac,nc,cc,h9,hp,hc,hn⟩:=hA
 have HS:=hid hv.2
 have HU:=hid hv
 have HOK:=hid hok
 have HP:=hid hp
 have HC:=hid (And.intro hc hn)
 have H9:=hid h9
 obtain ⟨hh,ho,hpt,hh3,hh4,hh5,hh6,hh7,hh8⟩:=a
 dsimp only at hp h9 hc hok HP HC H9 HOK
 have CNM:=hid (nums_any _ v w hv (by omega))
 have CP:=hid (fun (W:World) (h:Below w.heap.size w W)=>refPath_any _ v W (HU.out.keep h) (by omega))
 unfold PathF at CP
 cases hp2:pathIs v with
 | none =>
  have HE:=hid (show fillR 2 v=11 by simp [fillR,hp2])
  rw [hp2] at CP
  have CM:=hid (fun (v':Value) (W:World) (h:Segs W v' [])=>norm_anyF v' [] W h (by decide) (fun s hs=>by cases hs))
  clear hv hp hc hn h9 hok hl hp2
  unfold LayF
  rw [HE.out]
  go_enter Tryz.func142,Tryz.ntmps142
  go_wp2_with (first
   | (go_at_call 165;(refine (CNM.out).mono ?_;rintro e x ⟨An,nn,cn,rfl,hU,hN,hb⟩;have S1:=hid ((show LaSt w B (.int .i64 hh) (.int .i64 ho) (.slice Ap np cp) (.int .u32 hh3) (.int .u32 hh4) (.int .u32 hh5) (.int .u32 hh6) (.int .u32 hh7) (.slice Ac nc cc) w from ⟨H9.out,Only.refl _ _⟩).below hb);have HN:=hid (And.intro hU hN);have BX:=hid hb;clear hb hU hN;obtain ⟨c0,c1,c2,c3,c4,c5,c6,c7,c8⟩:=S1.out.b9.cells;have fB:=S1.out.b9.free))
   | (go_at_call 166;(have h:=BX.out;refine (CP.out _ h).mono ?_;rintro e y ⟨hb2,rfl⟩;have S2:=hid (S1.out.below hb2);have BY:=hid (h.trans (hb2.mono h.size));clear hb2 h))
   | (go_at_call 153;(refine (CM.out _ _ (show Segs _ (.slice none 0 0) [] from ⟨[],Row.nil _ 2,Nums32.nil _⟩)).mono ?_;rintro e z ⟨vz,rfl,hz,hb3⟩;obtain ⟨az,cz,rfl⟩:=hz.form;have HZ:=hid (hz.lower (Nat.le_trans hlt.2 BY.out.size) (Nat.le_trans hlt.2 BY.out.size));have S3:=hid (S2.out.below hb3);clear hb3 hz;obtain ⟨c0,c1,c2,c3,c4,c5,c6,c7,c8⟩:=S3.out.b9.cells;have fB:=S3.out.b9.free;have S4:=hid (S3.out.set2 (.slice az 0 cz));obtain ⟨d0,d1,d2,d3,d4,d5,d6,d7,d8⟩:=S4.out.b9.cells)))
  go_ret
  refine ⟨rfl,S4.out.on,⟨_,_,_,_,_,_,_,_,S4.out.b9⟩,fun hz=>?_⟩
  cases hz
 | some p =>
  obtain ⟨hpl,hpf⟩:=pathIs_len HS.out hp2
  have HEQ:=hid (show fillR 2 v=if waysP (normS p) then 0 else 11 by simp [fillR,hp2])
  have HPV:=hid (show (pathIs v).getD []=p by rw [hp2];rfl)
  have hln:=lens_norm p
  rw [hp2] at CP
  have CM:=hid (fun (v':Value) (W:World) (h:Segs W v' p)=>norm_anyF v' p W h (by rw [bulk_is];omega) (fun s hs=>Nat.le_trans (hpf s hs) (by decide)))
  have CW:=hid (fun (v':Value) (W:World) (h:Segs W v' (normS p))=>refWays8 v' (normS p) W h (by omega))
  clear hv hp hc hn h9 hok hl hp2 hln hpl hpf
  unfold LayF
  rw [HEQ.out]
  cases hw:waysP (normS p) with
  | false =>
   rw [hw] at CW
   rw [if_neg (by decide)]
   clear hw HEQ
   go_enter Tryz.func142,Tryz.ntmps142
   go_wp2_with (first
    | (go_at_call 165;(refine (CNM.out).mono ?_;rintro e x ⟨An,nn,cn,rfl,hU,hN,hb⟩;have S1:=hid ((show LaSt w B (.int .i64 hh) (.int .i64 ho) (.slice Ap np cp) (.int .u32 hh3) (.int .u32 hh4) (.int .u32 hh5) (.int .u32 hh6) (.int .u32 hh7) (.slice Ac nc cc) w from ⟨H9.out,Only.refl _ _⟩).below hb);have HN:=hid (And.intro hU hN);have BX:=hid hb;clear hb hU hN;obtain ⟨c0,c1,c2,c3,c4,c5,c6,c7,c8⟩:=S1.out.b9.cells;have fB:=S1.out.b9.free))
    | (go_at_call 166;(have h:=BX.out;refine (CP.out _ h).mono ?_;rintro e y ⟨hb2,vq,rfl,hq⟩;obtain ⟨aq,cq,rfl⟩:=hq.form;have HQ:=hid hq.segs;clear hq;have S2:=hid (S1.out.below hb2);have BY:=hid (h.trans (hb2.mono h.size));clear hb2 h))
    | (go_at_call 153;(refine (CM.out _ _ HQ.out).mono ?_;rintro e z ⟨vz,rfl,hz,hb3⟩;obtain ⟨az,cz,rfl⟩:=hz.form;have HZ:=hid (hz.lower (Nat.le_trans hlt.2 BY.out.size) (Nat.le_trans hlt.2 BY.out.size));have S3:=hid (S2.out.below hb3);clear hb3 hz;obtain ⟨c0,c1,c2,c3,c4,c5,c6,c7,c8⟩:=S3.out.b9.cells;have fB:=S3.out.b9.free;have S4:=hid (S3.out.set2 (.slice az (normS p).length cz));obtain ⟨d0,d1,d2,d3,d4,d5,d6,d7,d8⟩:=S4.out.b9.cells))
    | (go_at_call 123;(refine (CW.out _ _ (segs_off HZ.out (off_set (B:=B) (i:=2) (.slice az (normS p).length cz) hlt.1) (by simp)).segs).mono ?_;rintro e u ⟨rfl,hb4⟩;have S5:=hid (S4.out.below hb4);have HZ5:=hid ((segs_off HZ.out (off_set (B:=B) (i:=2) (.slice az (normS p).length cz) hlt.1) (by simp)).keep hb4);clear hb4)))
   go_ret
   refine ⟨rfl,S5.out.on,⟨_,_,_,_,_,_,_,_,S5.out.b9⟩,fun hz=>?_⟩
   cases hz
  | true =>
   rw [hw] at CW
   rw [if_pos (by decide)]
   clear hw HEQ
   go_enter Tryz.func142,Tryz.ntmps142
   go_wp2_with (first
    | (go_at_call 165;(refine (CNM.out).mono ?_;rintro e x ⟨An,nn,cn,rfl,hU,hN,hb⟩;have S1:=hid ((show LaSt w B (.int .i64 hh) (.int .i64 ho) (.slice Ap np cp) (.int .u32 hh3) (.int .u32 hh4) (.int .u32 hh5) (.int .u32 hh6) (.int .u32 hh7) (.slice Ac nc cc) w from ⟨H9.out,Only.refl _ _⟩).below hb);have HN:=hid (And.intro hU hN);have BX:=hid hb;clear hb hU hN;obtain ⟨c0,c1,c2,c3,c4,c5,c6,c7,c8⟩:=S1.out.b9.cells;have fB:=S1.out.b9.free))
    | (go_at_call 166;(have h:=BX.out;refine (CP.out _ h).mono ?_;rintro e y ⟨hb2,vq,rfl,hq⟩;obtain ⟨aq,cq,rfl⟩:=hq.form;have HQ:=hid hq.segs;clear hq;have S2:=hid (S1.out.below hb2);have BY:=hid (h.trans (hb2.mono h.size));clear hb2 h))
    | (go_at_call 153;(refine (CM.out _ _ HQ.out).mono ?_;rintro e z ⟨vz,rfl,hz,hb3⟩;obtain ⟨az,cz,rfl⟩:=hz.form;have HZ:=hid (hz.lower (Nat.le_trans hlt.2 BY.out.size) (Nat.le_trans hlt.2 BY.out.size));have S3:=hid (S2.out.below hb3);clear hb3 hz;obtain ⟨c0,c1,c2,c3,c4,c5,c6,c7,c8⟩:=S3.out.b9.cells;have fB:=S3.out.b9.free;have S4:=hid (S3.out.set2 (.slice az (normS p).length cz));obtain ⟨d0,d1,d2,d3,d4,d5,d6,d7,d8⟩:=S4.out.b9.cells))
    | (go_at_call 123;(refine (CW.out _ _ (segs_off HZ.out (off_set (B:=B) (i:=2) (.slice az (normS p).length cz) hlt.1) (by simp)).segs).mono ?_;rintro e u ⟨rfl,hb4⟩;have S5:=hid (S4.out.below hb4);have HZ5:=hid ((segs_off HZ.out (off_set (B:=B) (i:=2) (.slice az (normS p).length cz) hlt.1) (by simp)).keep hb4);clear hb4)))
   go_ret
   refine ⟨rfl,S5.out.on,⟨_,_,_,_,_,_,_,_,S5.out.b9⟩,fun hz=>?_⟩
   refine ⟨HOK.out,⟨hlt.1,Nat.le_trans hlt.2 S5.out.on.size⟩,az,_,cz,Ac,nc,cc,S5.out.b9,?_,u32_on HC.out.1 HC.out.2 S5.out.on (fun k e=>by subst e;exact hlt.1),HC.out.2⟩
   show OwnSegsF 108 N N _ _ (normS ((pathIs v).getD []))
   rw [HPV.out]
   exact HZ5.out
theorem lay_any (k:Nat) (A:Option Addr) (c:Nat) (v:List Nat) (w:World) (B N:Nat) (a:At) (hA:BoxA w B N a) (hv:U8s w (.slice A v.length c) v) (h1:1≤k) (h8:k≤8) (hl:longB k v.length=true) (hm:v.length≤1600) :
  Calls Tryz.prog 142 #[.pointer (some ⟨B,0,none⟩),.int .i64 k,.slice A v.length c] w (LayF B N a k v w):=by
 have hk:k=1∨k=2∨k=3∨k=4∨k=5∨k=6∨k=7∨k=8:=by omega
 rcases hk with rfl | rfl | rfl | rfl | rfl | rfl | rfl | rfl
 ·exact lay1 A c v w B N a hA hv (by simpa [longB] using hl)
 ·exact lay2 A c v w B N a hA hv hm
 ·exact lay3 A c v w B N a hA hv (by simpa [longB] using hl)
 ·exact lay4 A c v w B N a hA hv (by simpa [longB] using hl)
 ·exact lay5 A c v w B N a hA hv (by simpa [longB] using hl)
 ·exact lay6 A c v w B N a hA hv (by omega)
 ·exact lay7 A c v w B N a hA hv (by simpa [longB] using hl)
 ·exact lay8 A c v w B N a hA hv (by omega)
end Att
namespace Att
open Segm Rise Oct
def nrm (a:At):At:=⟨a.has,a.origin,normS a.path,a.hop,a.med,a.pref,a.aas,a.aid,a.comms⟩
theorem normA_nrm (a:At):normA (nrm a)=normA a:=by
 unfold normA nrm
 dsimp only
 rw [normS_twice]
theorem nrm_zero:nrm zeroA=zeroA:=rfl
theorem nrm_lay {a:At} {k:Nat} {v:List Nat} (hk:¬ (k<1∨8<k)):putHas (layR (nrm a) k v) (a.has+2 ^ k)=nrm (layA a k v):=by
 unfold layA
 rw [if_neg hk]
 unfold putHas layR nrm
 dsimp only
 by_cases h2:k=2
 ·rw [if_pos h2,if_pos h2]
 ·rw [if_neg h2,if_neg h2]
theorem norm_len (p:List Piece):(normS p).length≤bulk p:=by
 induction hn:p.length generalizing p with
 | zero=>rw [List.length_eq_zero_iff.1 hn];exact Nat.zero_le _
 | succ n ih =>
  rcases List.eq_nil_or_concat p with rfl | ⟨f,s,rfl⟩
  ·exact Nat.zero_le _
  ·rw [List.concat_eq_append] at *
   have h1:=ih f (by simpa using hn)
   rw [normS_snoc,bulk_append]
   have h2:=normOne_len (normS f) s
   have e:bulk [s]=s.2.length+1:=by simp [bulk]
   omega
theorem putsS_fit {m:Nat} (hm:255≤m):∀ (l:List Nat) (p:List Piece),FitS m p→FitS m (putsS p l)
 | [],_,h=>h
 | n :: l,p,h=>putsS_fit hm l (putS p n) (putS_fit n hm h)
theorem norm_fit (p:List Piece) (h:FitS 255 p):FitS 255 (normS p):=by
 induction hn:p.length generalizing p with
 | zero=>rw [List.length_eq_zero_iff.1 hn];exact fun s hs=>by cases hs
 | succ n ih =>
  rcases List.eq_nil_or_concat p with rfl | ⟨f,s,rfl⟩
  ·exact fun s hs=>by cases hs
  ·rw [List.concat_eq_append] at *
   have h1:=ih f (fun s hs=>h s (by simp [hs])) (by simpa using hn)
   rw [normS_snoc]
   unfold normOne
   split
   ·exact putsS_fit (Nat.le_refl _) _ _ h1
   ·split
    ·intro s' hs'
     rcases List.mem_append.1 hs' with h3 | h3
     ·exact h1 s' h3
     ·rw [List.mem_singleton.1 h3]
      exact Nat.le_trans (setOf_len s.2) (h s (by simp))
    ·exact h1
structure FineR (seen:List Nat) (a:At):Prop where
 fine:Fine seen a
 bk:bulk a.path≤4000
 fit:FitS 255 a.path
 cm:a.comms.length≤400
theorem fineR_zero:FineR [] zeroA:=⟨fine_zero,by decide,(fun s hs=>by cases hs),by decide⟩
theorem FineR.lay {seen:List Nat} {a:At} (h:FineR seen a) {f k:Nat} {v:List Nat} (hs:Small v) (hl:v.length≤1600) (hk:k ∉ seen) (hsub:subOf f k v=0):FineR (k :: seen) (layA a k v):=by
 refine ⟨h.fine.lay hs (by omega) hk hsub,?_,?_,?_⟩
 all_goals
  by_cases hu:k<1∨8<k
  ·rw [show layA a k v=a by unfold layA;rw [if_pos hu]]
   first | exact h.bk | exact h.fit | exact h.cm
  ·have ep:(layA a k v).path=if k=2 then (pathIs v).getD [] else a.path:=by unfold layA;rw [if_neg hu]
   have ec:(layA a k v).comms=if k=8 then quads v else a.comms:=by unfold layA;rw [if_neg hu]
   have hq:bulk ((pathIs v).getD [])≤4000∧FitS 255 ((pathIs v).getD []):=by
    cases hh:pathIs v with
    | none=>exact ⟨Nat.zero_le _,fun s hs=>by cases hs⟩
    | some p =>
     obtain ⟨h1,h2⟩:=pathIs_len hs hh
     exact ⟨by show bulk p≤4000;rw [bulk_is];omega,h2⟩
   first
    | (rw [ep];split <;> first | exact hq.1 | exact h.bk)
    | (rw [ep];split <;> first | exact hq.2 | exact h.fit)
    | (rw [ec];split <;> first | (unfold quads;rw [quadsN_len];omega) | exact h.cm)
theorem FineR.norm {seen:List Nat} {a:At} (h:FineR seen a):bulk (nrm a).path≤50000∧FitS 1000 (nrm a).path∧(nrm a).comms.length≤1000:=by
 have h1:=norm_len a.path
 have h2:=lens_norm a.path
 have h3:=h.bk
 refine ⟨?_,fun s hs=>Nat.le_trans (norm_fit a.path h.fit s hs) (by decide),Nat.le_trans h.cm (by decide)⟩
 show bulk (normS a.path)≤50000
 rw [bulk_is] at h1 h3 ⊢
 omega
theorem fillR_is {k:Nat} {v:List Nat} (hs:Small v) (hl:v.length≤1600):fillR k v=fillN k v:=by
 unfold fillR fillN
 by_cases h1:k=1
 ·rw [if_pos h1,if_pos h1]
 ·rw [if_neg h1,if_neg h1]
  by_cases h2:k=2
  ·rw [if_pos h2,if_pos h2]
   cases hp:pathIs v with
   | none=>rfl
   | some p =>
    dsimp only
    obtain ⟨h3,_⟩:=pathIs_len hs hp
    have h4:=lens_norm p
    unfold waysP
    rw [decide_eq_true (show lens (normS p)≤2000 by omega),decide_eq_true (show lens p≤2000 by omega)]
  ·rw [if_neg h2,if_neg h2]
def hdN (f:Nat):Nat:=if f / 16 % 2=1 then 4 else 3
def lenN (b:List Nat) (j:Nat) (hd:Nat):Nat:=val ((b.drop (j+2)).take (hd - 2))
theorem drop_four {b:List Nat} {j:Nat} (h:j+4≤b.length):∃ n1 n0,b.drop (j+2)=n1 :: n0 :: b.drop (j+4):=by
 refine ⟨b[j+2],b[j+3],?_⟩
 rw [List.drop_eq_getElem_cons (show j+2<b.length by omega),List.drop_eq_getElem_cons (show j+2+1<b.length by omega)]
theorem drop_three {b:List Nat} {j:Nat} (h:j+3≤b.length):∃ n0,b.drop (j+2)=n0 :: b.drop (j+3):=by
 refine ⟨b[j+2],?_⟩
 rw [List.drop_eq_getElem_cons (show j+2<b.length by omega)]
theorem item_at {b:List Nat} {j f k:Nat} (hs:Small b) (hf:b[j]?=some f) (hk:b[j+1]?=some k) :
  (b.length<j+hdN f→itemOf (b.drop j)=none)∧(j+hdN f≤b.length→lenN b j (hdN f)<65536 ∧
   (b.length<j+hdN f+lenN b j (hdN f)→itemOf (b.drop j)=none) ∧
   (j+hdN f+lenN b j (hdN f)≤b.length→itemOf (b.drop j)=some ⟨f,k,(b.drop (j+hdN f)).take (lenN b j (hdN f)),b.drop (j+hdN f+lenN b j (hdN f))⟩ ∧
    (b.drop j).take (hdN f+lenN b j (hdN f))=itemB f k ((b.drop (j+hdN f)).take (lenN b j (hdN f))))):=by
 have hd:=drop_two hf hk
 have hlt:j+1<b.length:=(List.getElem?_eq_some_iff.1 hk).1
 rw [hd]
 unfold hdN
 by_cases hl:f / 16 % 2=1
 ·rw [if_pos hl]
  constructor
  ·intro h
   unfold itemOf
   dsimp only
   rw [if_pos hl]
   have hlen:(b.drop (j+2)).length<2:=by rw [List.length_drop];omega
   match hq:b.drop (j+2),hlen with
   | [],_=>rfl
   | [_],_=>rfl
  ·intro h
   obtain ⟨n1,n0,e⟩:=drop_four h
   have s1:n1<256:=(hs.drop (j+2)) n1 (by rw [e];simp)
   have s0:n0<256:=(hs.drop (j+2)) n0 (by rw [e];simp)
   have ev:lenN b j 4=n1*256+n0:=by
    unfold lenN
    rw [e]
    show (0*256+n1)*256+n0=_
    omega
   rw [ev]
   have hlen:(b.drop (j+4)).length=b.length - (j+4):=List.length_drop
   refine ⟨by omega,fun h2=>?_,fun h2=>?_⟩
   ·rw [e]
    unfold itemOf
    dsimp only
    rw [if_pos hl,if_neg (by omega)]
   ·rw [e]
    constructor
    ·unfold itemOf
     dsimp only
     rw [if_pos hl,if_pos (by omega),List.drop_drop]
    ·unfold itemB
     rw [if_pos hl,List.length_take,Nat.min_eq_left (by omega),big2]
     rw [show 4+(n1*256+n0)=(n1*256+n0)+1+1+1+1 by omega]
     simp only [List.take_succ_cons,List.cons_append,List.nil_append]
     rw [show (n1*256+n0) / 256 % 256=n1 by omega,show (n1*256+n0) % 256=n0 by omega]
 ·rw [if_neg hl]
  constructor
  ·intro h
   unfold itemOf
   dsimp only
   rw [if_neg hl]
   have hlen:(b.drop (j+2)).length<1:=by rw [List.length_drop];omega
   match hq:b.drop (j+2),hlen with
   | [],_=>rfl
  ·intro h
   obtain ⟨n0,e⟩:=drop_three h
   have s0:n0<256:=(hs.drop (j+2)) n0 (by rw [e];simp)
   have ev:lenN b j 3=n0:=by
    unfold lenN
    rw [e]
    show 0*256+n0=_
    omega
   rw [ev]
   have hlen:(b.drop (j+3)).length=b.length - (j+3):=List.length_drop
   refine ⟨by omega,fun h2=>?_,fun h2=>?_⟩
   ·rw [e]
    unfold itemOf
    dsimp only
    rw [if_neg hl,if_neg (by omega)]
   ·rw [e]
    constructor
    ·unfold itemOf
     dsimp only
     rw [if_neg hl,if_pos (by omega),List.drop_drop]
    ·unfold itemB
     rw [if_neg hl,List.length_take,Nat.min_eq_left (by omega)]
     rw [show 3+n0=n0+1+1+1 by omega]
     simp only [List.take_succ_cons]
theorem own_bit:∀ f:Nat,f<256→(if f / 16 % 2=1 then f - 16 else f) / 32 % 2=f / 32 % 2:=by decide +kernel
def o1N (f:Nat):Nat:=if f / 16 % 2=1 then f - 16 else f
theorem ownF_is {f k:Nat} (hf:f<256):ownF f k=if 7≤k∧o1N f / 32 % 2=1 then o1N f - 32 else o1N f:=by
 unfold ownF o1N
 rw [own_bit f hf]
 by_cases h:7≤k∧f / 32 % 2=1
 ·rw [if_pos h,if_pos h]
 ·rw [if_neg h,if_neg h];omega
theorem o1N_lt {f:Nat} (hf:f<256):o1N f<256:=by unfold o1N;split <;> omega
end Att
namespace Att
open Go.RowKit Mem Segm Oct Seg
structure RdSt (w0:World) (seen:List Nat) (a:At) (W:World):Prop where
 r9:Box9 W w0.heap.size 29 (.int .i64 0) (.int .i64 0) (.slice none 0 0) (.int .u32 0) (.int .u32 0) (.int .u32 0) (.int .u32 0) (.int .u32 0) (.slice none 0 0)
 n3:Box3 W (w0.heap.size+1) 34 (.int .i64 0) (.int .i64 0) (.slice none 0 0)
 box:BoxA W (w0.heap.size+2) (w0.heap.size+6) a
 no9:Box9 W (w0.heap.size+3) 29 (.int .i64 0) (.int .i64 0) (.slice none 0 0) (.int .u32 0) (.int .u32 0) (.int .u32 0) (.int .u32 0) (.int .u32 0) (.slice none 0 0)
 ls:Box3 W (w0.heap.size+4) 34 (.int .i64 3) (.int .i64 1) (.slice none 0 0)
 sn:W.heap[w0.heap.size+5]?=some (.cells (seenA seen) 159)
 low:Below w0.heap.size w0 W
section
variable {w0 W W2:World} {seen:List Nat} {a a2:At}
theorem RdSt.size (h:RdSt w0 seen a W):w0.heap.size+6≤W.heap.size:=h.box.lt.2
theorem RdSt.below (h:RdSt w0 seen a W) (hb:Below W.heap.size W W2):RdSt w0 seen a W2 :=
 ⟨h.r9.keep hb,h.n3.keep hb,h.box.below hb,h.no9.keep hb,h.ls.keep hb,(hb.block _ (by have:=h.size;omega)).trans h.sn,h.low.trans (hb.mono h.low.size)⟩
theorem RdSt.fill (h:RdSt w0 seen a W) (ho:Only (fun q=>q=w0.heap.size+2) W W2) (hA:BoxA W2 (w0.heap.size+2) (w0.heap.size+6) a2):RdSt w0 seen a2 W2:=by
 have hs:=h.size
 exact ⟨⟨(ho.block _ (by omega) (by omega)).trans h.r9.blk⟩,⟨(ho.block _ (by omega) (by omega)).trans h.n3.blk⟩,hA,⟨(ho.block _ (by omega) (by omega)).trans h.no9.blk⟩,⟨(ho.block _ (by omega) (by omega)).trans h.ls.blk⟩,(ho.block _ (by omega) (by omega)).trans h.sn,h.low.trans (ho.below (fun k e=>by subst e;omega) h.low.size)⟩
structure Lost (w0 W:World):Prop where
 r9:Box9 W w0.heap.size 29 (.int .i64 0) (.int .i64 0) (.slice none 0 0) (.int .u32 0) (.int .u32 0) (.int .u32 0) (.int .u32 0) (.int .u32 0) (.slice none 0 0)
 n3:Box3 W (w0.heap.size+1) 34 (.int .i64 0) (.int .i64 0) (.slice none 0 0)
 no9:Box9 W (w0.heap.size+3) 29 (.int .i64 0) (.int .i64 0) (.slice none 0 0) (.int .u32 0) (.int .u32 0) (.int .u32 0) (.int .u32 0) (.int .u32 0) (.slice none 0 0)
 low:Below w0.heap.size w0 W
theorem RdSt.lost (h:RdSt w0 seen a W) (ho:Only (fun q=>q=w0.heap.size+2) W W2):Lost w0 W2:=by
 have hs:=h.size
 exact ⟨⟨(ho.block _ (by omega) (by omega)).trans h.r9.blk⟩,⟨(ho.block _ (by omega) (by omega)).trans h.n3.blk⟩,⟨(ho.block _ (by omega) (by omega)).trans h.no9.blk⟩,h.low.trans (ho.below (fun k e=>by subst e;omega) h.low.size)⟩
theorem RdSt.mark (h:RdSt w0 seen a W) {k:Nat} (hk:k<256):RdSt w0 (k :: seen) a (W.setCell ⟨w0.heap.size+5,k,none⟩ (.bool true)):=by
 have hs:=h.size
 have ho:Only (fun q=>q=w0.heap.size+5) W (W.setCell ⟨w0.heap.size+5,k,none⟩ (.bool true)):=Only.set (F:=fun q=>q=w0.heap.size+5) (b:=w0.heap.size+5) (i:=k) (Only.refl _ _) rfl _
 refine ⟨⟨(ho.block _ (by omega) (by omega)).trans h.r9.blk⟩,⟨(ho.block _ (by omega) (by omega)).trans h.n3.blk⟩,h.box.on ho (fun k e=>by subst e;omega),⟨(ho.block _ (by omega) (by omega)).trans h.no9.blk⟩,⟨(ho.block _ (by omega) (by omega)).trans h.ls.blk⟩,?_,h.low.trans (ho.below (fun k e=>by subst e;omega) h.low.size)⟩
 rw [Go.Joins.block_setCell h.sn,seenA_set seen hk]
theorem RdSt.seen_cell (h:RdSt w0 seen a W) {k:Nat} (hk:k<256):W.cell? ⟨w0.heap.size+5,k,none⟩=some (.bool (decide (k∈seen)))∧W.frozen? ⟨w0.heap.size+5,k,none⟩=false:=by
 refine ⟨?_,Go.Joins.unfrozen_of_block h.sn k⟩
 have:=seenA_at seen hk
 simp only [World.cell?,h.sn]
 simpa using this
end
theorem rd_boxes (w:World):RdSt w [] zeroA ((((((w.alloc (.cells #[.int .i64 0,.int .i64 0,.slice none 0 0,.int .u32 0,.int .u32 0,.int .u32 0,.int .u32 0,.int .u32 0,.slice none 0 0] 29)).alloc (.cells #[.int .i64 0,.int .i64 0,.slice none 0 0] 34)).alloc (.cells #[.int .i64 0,.int .i64 0,.slice none 0 0,.int .u32 0,.int .u32 0,.int .u32 0,.int .u32 0,.int .u32 0,.slice none 0 0] 29)).alloc (.cells #[.int .i64 0,.int .i64 0,.slice none 0 0,.int .u32 0,.int .u32 0,.int .u32 0,.int .u32 0,.int .u32 0,.slice none 0 0] 29)).alloc (.cells #[.int .i64 3,.int .i64 1,.slice none 0 0] 34)).alloc (.cells Tryz.zeroCells159 159)):=by
 have h1:=Box9.new w 29 (.int .i64 0) (.int .i64 0) (.slice none 0 0) (.int .u32 0) (.int .u32 0) (.int .u32 0) (.int .u32 0) (.int .u32 0) (.slice none 0 0)
 have b1:Below w.heap.size w (w.alloc (.cells #[.int .i64 0,.int .i64 0,.slice none 0 0,.int .u32 0,.int .u32 0,.int .u32 0,.int .u32 0,.int .u32 0,.slice none 0 0] 29)):=(Below.refl _ _).alloc (Nat.le_refl _) _
 have e1:(w.alloc (.cells #[.int .i64 0,.int .i64 0,.slice none 0 0,.int .u32 0,.int .u32 0,.int .u32 0,.int .u32 0,.int .u32 0,.slice none 0 0] 29)).heap.size=w.heap.size+1:=by simp
 obtain ⟨w1,hw1⟩:∃ w1,w1=w.alloc (.cells #[.int .i64 0,.int .i64 0,.slice none 0 0,.int .u32 0,.int .u32 0,.int .u32 0,.int .u32 0,.int .u32 0,.slice none 0 0] 29):=⟨_,rfl⟩
 rw [← hw1] at h1 b1 e1 ⊢
 have h2:=Box3.new w1 34 (.int .i64 0) (.int .i64 0) (.slice none 0 0)
 have b2:Below w1.heap.size w1 (w1.alloc (.cells #[.int .i64 0,.int .i64 0,.slice none 0 0] 34)):=(Below.refl _ _).alloc (Nat.le_refl _) _
 have e2:(w1.alloc (.cells #[.int .i64 0,.int .i64 0,.slice none 0 0] 34)).heap.size=w.heap.size+2:=by simp [e1]
 rw [e1] at h2
 obtain ⟨w2,hw2⟩:∃ w2,w2=w1.alloc (.cells #[.int .i64 0,.int .i64 0,.slice none 0 0] 34):=⟨_,rfl⟩
 rw [← hw2] at h2 b2 e2 ⊢
 have h3:=Box9.new w2 29 (.int .i64 0) (.int .i64 0) (.slice none 0 0) (.int .u32 0) (.int .u32 0) (.int .u32 0) (.int .u32 0) (.int .u32 0) (.slice none 0 0)
 have b3:Below w2.heap.size w2 (w2.alloc (.cells #[.int .i64 0,.int .i64 0,.slice none 0 0,.int .u32 0,.int .u32 0,.int .u32 0,.int .u32 0,.int .u32 0,.slice none 0 0] 29)):=(Below.refl _ _).alloc (Nat.le_refl _) _
 have e3:(w2.alloc (.cells #[.int .i64 0,.int .i64 0,.slice none 0 0,.int .u32 0,.int .u32 0,.int .u32 0,.int .u32 0,.int .u32 0,.slice none 0 0] 29)).heap.size=w.heap.size+3:=by simp [e2]
 rw [e2] at h3
 obtain ⟨w3,hw3⟩:∃ w3,w3=w2.alloc (.cells #[.int .i64 0,.int .i64 0,.slice none 0 0,.int .u32 0,.int .u32 0,.int .u32 0,.int .u32 0,.int .u32 0,.slice none 0 0] 29):=⟨_,rfl⟩
 rw [← hw3] at h3 b3 e3 ⊢
 have h4:=Box9.new w3 29 (.int .i64 0) (.int .i64 0) (.slice none 0 0) (.int .u32 0) (.int .u32 0) (.int .u32 0) (.int .u32 0) (.int .u32 0) (.slice none 0 0)
 have b4:Below w3.heap.size w3 (w3.alloc (.cells #[.int .i64 0,.int .i64 0,.slice none 0 0,.int .u32 0,.int .u32 0,.int .u32 0,.int .u32 0,.int .u32 0,.slice none 0 0] 29)):=(Below.refl _ _).alloc (Nat.le_refl _) _
 have e4:(w3.alloc (.cells #[.int .i64 0,.int .i64 0,.slice none 0 0,.int .u32 0,.int .u32 0,.int .u32 0,.int .u32 0,.int .u32 0,.slice none 0 0] 29)).heap.size=w.heap.size+4:=by simp [e3]
 rw [e3] at h4
 obtain ⟨w4,hw4⟩:∃ w4,w4=w3.alloc (.cells #[.int .i64 0,.int .i64 0,.slice none 0 0,.int .u32 0,.int .u32 0,.int .u32 0,.int .u32 0,.int .u32 0,.slice none 0 0] 29):=⟨_,rfl⟩
 rw [← hw4] at h4 b4 e4 ⊢
 have h5:=Box3.new w4 34 (.int .i64 3) (.int .i64 1) (.slice none 0 0)
 have b5:Below w4.heap.size w4 (w4.alloc (.cells #[.int .i64 3,.int .i64 1,.slice none 0 0] 34)):=(Below.refl _ _).alloc (Nat.le_refl _) _
 have e5:(w4.alloc (.cells #[.int .i64 3,.int .i64 1,.slice none 0 0] 34)).heap.size=w.heap.size+5:=by simp [e4]
 rw [e4] at h5
 obtain ⟨w5,hw5⟩:∃ w5,w5=w4.alloc (.cells #[.int .i64 3,.int .i64 1,.slice none 0 0] 34):=⟨_,rfl⟩
 rw [← hw5] at h5 b5 e5 ⊢
 have h6:=heap_alloc_new w5 (.cells Tryz.zeroCells159 159)
 have b6:Below w5.heap.size w5 (w5.alloc (.cells Tryz.zeroCells159 159)):=(Below.refl _ _).alloc (Nat.le_refl _) _
 have e6:(w5.alloc (.cells Tryz.zeroCells159 159)).heap.size=w.heap.size+6:=by simp [e5]
 rw [e5] at h6
 obtain ⟨w6,hw6⟩:∃ w6,w6=w5.alloc (.cells Tryz.zeroCells159 159):=⟨_,rfl⟩
 rw [← hw6] at h6 b6 e6 ⊢
 have hlow:Below w.heap.size w w6:=((((b1.trans (b2.mono (by omega))).trans (b3.mono (by omega))).trans (b4.mono (by omega))).trans (b5.mono (by omega))).trans (b6.mono (by omega))
 refine ⟨((((h1.keep b2).keep b3).keep b4).keep b5).keep b6,(((h2.keep b3).keep b4).keep b5).keep b6,⟨zeroA_ok,⟨by omega,by omega⟩,none,0,0,none,0,0,((h3.keep b4).keep b5).keep b6,nil_segsF _ _ _,U32s.nil _,NewAt.nil _⟩,(h4.keep b5).keep b6,h5.keep b6,?_,hlow⟩
 rw [h6,seen_zero]
theorem has_sum {h:Int} {k:Nat} (h0:0≤h) (h5:h<512) (hk:k≤8):wrap64 (h+wrap64 (2 ^ min k 64))=h+2 ^ k∧(Lit.int .i64 (h+2 ^ k)).wf=true:=by
 rw [Nat.min_eq_left (show k≤64 by omega)]
 have h2:2 ^ k≤256:=Nat.le_trans (Nat.pow_le_pow_right (by omega) hk) (by decide)
 have h1:(2:Int) ^ k=((2 ^ k:Nat):Int):=by simp
 rw [h1]
 generalize 2 ^ k=y at h2
 constructor
 ·rw [wrap64_small (n:=(y:Int)) (by omega) (by omega),wrap64_small (by omega) (by omega)]
 ·simp [Lit.wf,IntKind.min,IntKind.max,IntKind.signed,IntKind.bits];omega
theorem byte16u:∀ f:Nat,f<256→(bits .and .u8 (f:Int) 16 != 0)=decide (f / 16 % 2=1):=by decide +kernel
theorem newAt_own {W:World} {n m base:Nat} {t:TypeId} {v:Value} {xs:List Value} (h:W.ownsRow base t 1 v m xs) (hn:n≤base):NewAt n v:=fun b off k c e h0=>by
 have:=(h.lt b (by rw [e];rfl)).1
 omega
theorem DecG.drew {b:List Nat} {w W:World} {e:Ending} (h:DecG b w e W):DecG b w e W.drew:=by
 obtain ⟨va,vn,h1,⟨a1,vp,vc,a2,a3,a4,a5⟩,h3,h4⟩:=h
 have k:=(Below.refl W.heap.size W).drew
 exact ⟨va,vn,h1,⟨a1,vp,vc,a2,segs_drew a3,a4.keep k,a5⟩,h3.keep k,h4.trans (k.mono h4.size)⟩
theorem decode_rg (v:Value) (b:List Nat) (w:World) (hv:U8s w v b) (hl:b.length≤1600) :
  Calls Tryz.prog 98 #[v] w (DecG b w):=by
 have D0:=hid (rd_boxes w)
 have HU:=hid hv
 obtain ⟨Ab,cb,rfl,hlc,hcc⟩:=hv.form
 clear hv
 go_enter Tryz.func98,Tryz.ntmps98
 go_wp2
 go_loopw [8] (fun v8 wx=>∃ (j:Nat) (seen:List Nat) (a:At),v8=.int .i64 j∧Hid (j≤b.length∧decodeA b=decF seen a (b.drop j)∧FineR seen a)∧Hid (RdSt w seen (nrm a) wx)) (fun v8 _=>b.length - (intOf v8).toNat)
 case atStart=>exact ⟨0,[],zeroA,rfl,hid ⟨Nat.zero_le _,rfl,fineR_zero⟩,hid (by rw [nrm_zero];exact D0.out)⟩
 case round =>
  obtain ⟨j,seen,a,rfl,HI,ST⟩:=hrel
  have hj:=HI.out.1
  by_cases hlt:j<b.length
  ·have z1:(j:Int)<(b.length:Int):=by omega
   by_cases h2:j+2≤b.length
   ·have z2:(j:Int)+1<(b.length:Int):=by omega
    have z5:(0:Int)≤(j:Int):=by omega
    obtain ⟨blk,off,f,k,rfl,hbl,hf,hf8,ca0,hk,hk8,ck0⟩:=two_at HU.out (k:=j) (by omega)
    have HKB:=hid (fun (W:World) (h:Below w.heap.size w W)=>And.intro (keeps h ca0) (keeps h ck0))
    have HIT:=hid (item_at HU.out.2 hf hk)
    clear ca0 ck0 hf hk
    obtain ⟨ca,ck⟩:=HKB.out _ ST.out.low
    have HF8:=hid (And.intro hf8 hk8)
    obtain ⟨lng,hlng⟩:∃ lng,lng=decide (f / 16 % 2=1):=⟨_,rfl⟩
    have y16:(bits .and .u8 (f:Int) 16 != 0)=lng:=by rw [hlng];exact byte16u f hf8
    have HLNG:=hid hlng
    clear hlng
    go_upto_if 36 with fail
    go_cut [9] (fun s9 wx=>s9=.int .i64 (hdN f:Nat)∧wx=wr)
    case first =>
     cases lng with
     | true =>
      have HE:=hid (show hdN f=4 by unfold hdN;rw [if_pos (of_decide_eq_true HLNG.out.symm)])
      go_wp2
      go_meet
      exact ⟨by rw [HE.out];rfl,rfl⟩
     | false =>
      have HE:=hid (show hdN f=3 by unfold hdN;rw [if_neg (of_decide_eq_false HLNG.out.symm)])
      go_wp2
      go_meet
      exact ⟨by rw [HE.out];rfl,rfl⟩
    case rest =>
    obtain ⟨rfl,rfl⟩:=hcut
    obtain ⟨hd,hhd⟩:∃ hd,hd=hdN f:=⟨_,rfl⟩
    obtain ⟨n,hn⟩:∃ n,n=lenN b j (hdN f):=⟨_,rfl⟩
    have hd34:3≤hd∧hd≤4:=by rw [hhd];unfold hdN;split <;> omega
    rw [← hn] at HIT
    rw [← hhd] at HIT ⊢
    have HHD:=hid (And.intro hhd (show n=val ((b.drop (j+2)).take (hd - 2)) by rw [hn,hhd];rfl))
    clear hhd hn y16 HLNG lng
    by_cases g1:j+hd≤b.length
    ·have z6:decide ((b.length:Int)<(j:Int)+(hd:Int))=false:=decide_eq_false (by omega)
     obtain ⟨hn6,hI1,hI2⟩:=HIT.out.2 g1
     have HI1:=hid hI1
     have HI2:=hid hI2
     obtain ⟨t,ht⟩:∃ t,t=j+hd:=⟨_,rfl⟩
     obtain ⟨j2,hj2⟩:∃ j2,j2=j+2:=⟨_,rfl⟩
     obtain ⟨u,hu⟩:∃ u,u=t+n:=⟨_,rfl⟩
     have e1:(j:Int)+(hd:Int)=(t:Int):=by omega
     have e2:(j:Int)+2=(j2:Int):=by omega
     have e3:(t:Int)+(n:Int)=(u:Int):=by omega
     have e4:j2+(hd - 2)=t:=by omega
     have z6:decide ((b.length:Int)<(t:Int))=false:=decide_eq_false (by omega)
     have z7:(0:Int)≤(j2:Int):=by omega
     have z8:(j2:Int)≤(t:Int):=by omega
     have z9:(t:Int)≤(cb:Int):=by omega
     have z10:¬ cb=j2:=by omega
     have z11:(0:Int)≤(j:Int)+1:=by omega
     have z12:(0:Int)≤(k:Int):=by omega
     have z13:(k:Int)<256:=by omega
     have HUJ:=hid (show U8s w (.slice (some ⟨blk,off+j2,none⟩) (t - j2) (cb - j2)) ((b.drop j2).take (hd - 2)) from by
      have h:=mid_any HU.out (i:=j2) (m:=hd - 2) (by omega)
      rw [show t - j2=hd - 2 by omega]
      exact h)
     have CNM:=hid (fun (W:World) (h:Below w.heap.size w W)=>show Calls Tryz.prog 95 #[.slice (some ⟨blk,off+j2,none⟩) (t - j2) (cb - j2)] W (Tells (.int .u32 n) W) from by
      have h:=num_any _ _ W (HUJ.out.keep h) (Nat.le_trans (List.length_take_le _ _) (by omega))
      rw [HHD.out.2,← hj2]
      exact h)
     have HT:=hid (And.intro ht (And.intro hj2 (And.intro hu e4)))
     have n63:IntKind.i64.wrap (n:Int)=(n:Int):=by rw [IntKind.wrap_i64];omega
     clear ht hj2 hu e4 hI1 hI2
     have CE:=hid (fun (W:World) (a:At) (seen:List Nat) (h:RdSt w seen a W)=>show W.cell? ⟨w.heap.size+1+1+1+1+1,k,none⟩=some (.bool (decide (k∈seen)))∧W.frozen? ⟨w.heap.size+1+1+1+1+1,k,none⟩=false from h.seen_cell HF8.out.2)
     by_cases g2:u≤b.length
     ·have z14:decide ((b.length:Int)<(u:Int))=false:=decide_eq_false (by omega)
      have HIS:=hid (HI2.out (by have:=HT.out;omega))
      by_cases hse:k∈seen
      ·have HDC:=hid (show decodeA b=.inl ⟨3,(1:Nat),[]⟩ from (HI.out.2.1.trans (decF_some (HU.out.2.drop _) HIS.out.1)).trans (if_pos hse))
       have hd:decide (k∈seen)=true:=decide_eq_true hse
       clear hse
       go_wp2
       go_quiet (fail)
       go_wp2_with (go_at_call 95;(refine (CNM.out _ (ST.out.low.trans ((Mem.below_drewN _ _).mono ST.out.low.size))).mono ?_;rintro e x ⟨rfl,hx⟩;have S2:=hid ((ST.out.below (Mem.below_drewN _ _)).below hx);clear hx;obtain ⟨s0,s1⟩:=CE.out _ _ _ S2.out))
       clear CE HUJ CNM HT HHD HIT HKB HI1 HI2 e1 e2 e3 n63 z1 z2 z5 z6 z7 z8 z9 z10 z11 z12 z13 z14 s0 s1 ca ck ST
       have LD:=hid (S2.out.below (Below.refl x.heap.size x).drew)
       obtain ⟨c0,c1,c2,c3,c4,c5,c6,c7,c8⟩:=S2.out.r9.cells
       have f9:=S2.out.r9.free
       obtain ⟨p0,p1,p2,p3,p4,p5,p6,p7,p8⟩:=S2.out.no9.cells
       obtain ⟨m0,m1,m2⟩:=(dec_mid S2.out.n3 (.int .i64 0) (.int .i64 0) (.slice none 0 0) (.int .u32 0) (.int .u32 0) (.int .u32 0) (.int .u32 0) (.int .u32 0) (.slice none 0 0)).cells
       have f3:=(dec_mid S2.out.n3 (.int .i64 0) (.int .i64 0) (.slice none 0 0) (.int .u32 0) (.int .u32 0) (.int .u32 0) (.int .u32 0) (.int .u32 0) (.slice none 0 0)).free
       unfold nine at m0 m1 m2 f3
       obtain ⟨c0',c1',c2',c3',c4',c5',c6',c7',c8'⟩:=LD.out.r9.cells
       have f9':=LD.out.r9.free
       obtain ⟨p0',p1',p2',p3',p4',p5',p6',p7',p8'⟩:=LD.out.no9.cells
       obtain ⟨m0',m1',m2'⟩:=(dec_mid LD.out.n3 (.int .i64 0) (.int .i64 0) (.slice none 0 0) (.int .u32 0) (.int .u32 0) (.int .u32 0) (.int .u32 0) (.int .u32 0) (.slice none 0 0)).cells
       have f3':=(dec_mid LD.out.n3 (.int .i64 0) (.int .i64 0) (.slice none 0 0) (.int .u32 0) (.int .u32 0) (.int .u32 0) (.int .u32 0) (.int .u32 0) (.slice none 0 0)).free
       unfold nine at m0' m1' m2' f3'
       obtain ⟨l0,l1,l2⟩:=S2.out.ls.cells
       obtain ⟨l0',l1',l2'⟩:=LD.out.ls.cells
       (try go_wp2)
       go_region
       clear c0 c1 c2 c3 c4 c5 c6 c7 c8 f9 p0 p1 p2 p3 p4 p5 p6 p7 p8 m0 m1 m2 f3 c0' c1' c2' c3' c4' c5' c6' c7' c8' f9' p0' p1' p2' p3' p4' p5' p6' p7' p8' m0' m1' m2' f3' l0 l1 l2 l0' l1' l2'
       go_wp2
       obtain ⟨k1,k2,-⟩:=dec_end S2.out.r9 S2.out.n3 S2.out.low (.int .i64 0) (.int .i64 0) (.slice none 0 0) (.int .u32 0) (.int .u32 0) (.int .u32 0) (.int .u32 0) (.int .u32 0) (.slice none 0 0) (.int .i64 3) (.int .i64 1) (.slice none 0 0)
       obtain ⟨r0,r1,r2,r3,r4,r5,r6,r7,r8⟩:=k1.cells
       obtain ⟨t0,t1,t2⟩:=k2.cells
       clear k1 k2
       unfold three nine at r0 r1 r2 r3 r4 r5 r6 r7 r8 t0 t1 t2
       refine bodyPost_ret (by simp [results,Tryz.results98,go_sem,r0,r1,r2,r3,r4,r5,r6,r7,r8,t0,t1,t2]) rfl ((dec_bad S2.out.r9 S2.out.n3 S2.out.low HDC.out (note_three _ 1 (by decide))).drew)
      ·have hdec:decide (k∈seen)=false:=decide_eq_false hse
       have HD2:=hid ((HI.out.2.1.trans (decF_some (HU.out.2.drop _) HIS.out.1)).trans (if_neg hse))
       have z15:(0:Int)≤(t:Int):=by omega
       have z16:(t:Int)≤(u:Int):=by omega
       have z17:(u:Int)≤(cb:Int):=by omega
       have z18:¬ cb=j:=by omega
       have z19:(j:Int)≤(u:Int):=by omega
       obtain ⟨lg,hlg⟩:∃ lg,lg=decide (f / 16 % 2=1):=⟨_,rfl⟩
       have y17:(bits .and .i64 (f:Int) 16 != 0)=lg:=by
        rw [byte16 f HF8.out.1,hlg]
        by_cases h:f / 16 % 2=1
        ·rw [if_pos h,decide_eq_true h];rfl
        ·rw [if_neg h,decide_eq_false h];rfl
       have HLG:=hid hlg
       clear hlg
       obtain ⟨Av,hAv⟩:∃ Av,Av=(if cb=t then some (⟨blk,off,none⟩:Addr) else some ⟨blk,off+t,none⟩):=⟨_,rfl⟩
       go_wp2
       go_quiet (fail)
       go_wp2_with (go_at_call 95;(refine (CNM.out _ (ST.out.low.trans ((Mem.below_drewN _ _).mono ST.out.low.size))).mono ?_;rintro e x ⟨rfl,hx⟩;have S2:=hid ((ST.out.below (Mem.below_drewN _ _)).below hx);clear hx;obtain ⟨s0,s1⟩:=CE.out _ _ _ S2.out;rw [hdec] at s0;have S3:=hid (show RdSt w (k :: seen) (nrm a) (x.setCell ⟨w.heap.size+1+1+1+1+1,k,none⟩ (.bool true)) from S2.out.mark HF8.out.2)))
       go_quiet (fail)
       go_upto_if 108 with fail
       have S4:=hid (show RdSt w (k :: seen) (nrm a) ((x.setCell ⟨w.heap.size+1+1+1+1+1,k,none⟩ (.bool true)).drewN nq) from S3.out.below (Mem.below_drewN _ _))
       generalize (x.setCell ⟨w.heap.size+1+1+1+1+1,k,none⟩ (.bool true)).drewN nq=W4 at S4 ⊢
       rw [← hAv]
       have HAV:=hid hAv
       clear s0 s1 S3 S2 ca ck hAv y17 CE HUJ CNM
       go_cut [15] (fun s15 wx=>s15=.int .i64 (o1N f:Nat)∧W4=wx)
       case first =>
        cases lg with
        | true =>
         have HE:=hid (show o1N f=f - 16∧16≤f by
          have h:=of_decide_eq_true HLG.out.symm
          unfold o1N
          rw [if_pos h]
          exact ⟨rfl,by omega⟩)
         go_wp2
         go_meet
         exact ⟨by (rw [HE.out.1];congr 1;have:=HE.out.2;omega),rfl⟩
        | false =>
         have HE:=hid (show o1N f=f by unfold o1N;rw [if_neg (of_decide_eq_false HLG.out.symm)])
         go_wp2
         go_meet
         exact ⟨by rw [HE.out],rfl⟩
       case rest =>
       obtain ⟨rfl,rfl⟩:=hcut
       obtain ⟨o,ho⟩:∃ o,o=o1N f:=⟨_,rfl⟩
       have ho8:o<256:=by rw [ho];exact o1N_lt HF8.out.1
       rw [← ho]
       obtain ⟨l2,hl2⟩:∃ l2,l2=decide (o / 32 % 2=1):=⟨_,rfl⟩
       have y32:(bits .and .i64 (o:Int) 32 != 0)=l2:=by
        rw [byte32 o ho8,hl2]
        by_cases h:o / 32 % 2=1
        ·rw [if_pos h,decide_eq_true h];rfl
        ·rw [if_neg h,decide_eq_false h];rfl
       have HL2:=hid (And.intro ho hl2)
       clear ho hl2 HLG lg
       go_upto_region 21 with fail
       go_cut [117] (fun s117 wx=>s117=.bool (decide (7≤k) && l2)∧W4=wx)
       case first =>
        by_cases h7:7≤k
        ·have y7:(k:Int) ≥ 7:=by omega
         have H7:=hid h7
         clear h7
         go_wp2
         go_meet
         exact ⟨by rw [decide_eq_true H7.out];rfl,rfl⟩
        ·have y7:decide ((7:Int)≤(k:Int))=false:=decide_eq_false (by omega)
         have H7:=hid h7
         clear h7
         go_wp2
         go_meet
         exact ⟨by rw [decide_eq_false H7.out];rfl,rfl⟩
       case rest =>
       obtain ⟨rfl,rfl⟩:=hcut
       obtain ⟨c2,hc2⟩:∃ c2,c2=(decide (7≤k) && l2):=⟨_,rfl⟩
       rw [← hc2]
       have HC2:=hid (show c2=decide (7≤k∧o1N f / 32 % 2=1) by
        rw [hc2,HL2.out.2,HL2.out.1,Bool.decide_and])
       clear hc2 y32
       go_upto_if 117 with fail
       go_cut [15] (fun s15 wx=>s15=.int .i64 (ownF f k:Nat)∧W4=wx)
       case first =>
        cases c2 with
        | true =>
         have HE:=hid (show ownF f k=o - 32∧32≤o by
          have h:=of_decide_eq_true HC2.out.symm
          rw [ownF_is HF8.out.1,if_pos h,HL2.out.1]
          exact ⟨rfl,by have:=h.2;omega⟩)
         go_wp2
         go_meet
         exact ⟨by (rw [HE.out.1];congr 1;have:=HE.out.2;omega),rfl⟩
        | false =>
         have HE:=hid (show ownF f k=o by rw [ownF_is HF8.out.1,if_neg (of_decide_eq_false HC2.out.symm),HL2.out.1])
         go_wp2
         go_meet
         exact ⟨by rw [HE.out],rfl⟩
       case rest =>
       obtain ⟨rfl,rfl⟩:=hcut
       clear HC2 HL2 ho8 c2 l2
       generalize ho:ownF f k=ow
       go_upto_region 24 with fail
       go_cut [125] (fun s125 wx=>s125=.bool (decide (k<1) || decide (8<k))∧W4=wx)
       case first =>
        by_cases k1:k<1
        ·have y8:(k:Int)<1:=by omega
         have K1:=hid k1
         clear k1
         go_wp2
         go_meet
         exact ⟨by rw [decide_eq_true K1.out];rfl,rfl⟩
        ·have y8:decide ((k:Int)<1)=false:=decide_eq_false (by omega)
         have K1:=hid k1
         by_cases k8:8<k
         ·have y9:(k:Int) > 8:=by omega
          have K8:=hid k8
          clear k1 k8
          go_wp2
          go_meet
          exact ⟨by rw [decide_eq_false K1.out,decide_eq_true K8.out];rfl,rfl⟩
         ·have y9:decide ((8:Int)<(k:Int))=false:=decide_eq_false (by omega)
          have K8:=hid k8
          clear k1 k8
          go_wp2
          go_meet
          exact ⟨by rw [decide_eq_false K1.out,decide_eq_false K8.out];rfl,rfl⟩
       case rest =>
       obtain ⟨rfl,rfl⟩:=hcut
       obtain ⟨unk,hunk⟩:∃ unk,unk=(decide (k<1) || decide (8<k)):=⟨_,rfl⟩
       rw [← hunk]
       have HUNK:=hid (show unk=decide (k<1∨8<k) by rw [hunk,Bool.decide_or])
       have HOW:=hid ho
       clear hunk ho
       obtain ⟨xv,hxv⟩:∃ xv,xv=(b.drop (j+hd)).take n:=⟨_,rfl⟩
       have hxl:xv.length=u - t:=by rw [hxv,List.length_take,List.length_drop];have:=HT.out;omega
       have hxs:Small xv:=by rw [hxv];exact (HU.out.2.drop _).take _
       have HXU:=hid (show U8s w (.slice Av (u - t) (cb - t)) xv from by
        have h:=HU.out.cut (k:=t) (by omega)
        have h2:U8s w (.slice Av (b.length - t) (cb - t)) (b.drop t):=by
         rw [HAV.out]
         by_cases hct:cb=t
         ·rw [if_pos hct] at h ⊢;exact h
         ·rw [if_neg hct] at h ⊢
          simpa [Addr.add,show t≠0 by omega] using h
        have h3:=h2.prefix_ (k:=n) (d:=cb - t) (by rw [List.length_drop];have:=HT.out;omega) (by have:=HT.out;omega) (by unfold maxLen;omega)
        rw [show u - t=n by have:=HT.out;omega,hxv,show j+hd=t by have:=HT.out;omega]
        exact h3)
       have hll:=Nat.le_trans (Nat.le_of_eq hxl) (show u - t≤1600 by omega)
       have HIS2:=hid (show decodeA b=if subOf f k xv=0 then decF (k :: seen) (layA a k xv) (b.drop u) else .inl (badN (subOf f k xv) ⟨f,k,xv,b.drop u⟩) by
        have h:=HD2.out
        rw [← hxv,show j+hd+n=u by have:=HT.out;omega] at h
        exact h)
       have HALL:=hid (show U8s w (.slice (some ⟨blk,off+j,none⟩) (u - j) (cb - j)) (itemB f k xv) from by
        have h:=mid_any HU.out (i:=j) (m:=hd+n) (by have:=HT.out;omega)
        rw [HIS.out.2,← hxv,show hd+n=u - j by have:=HT.out;omega] at h
        exact h)
       have HFS:=hid (And.intro hxs (And.intro hll (And.intro hxl hse)))
       have CLY:=hid (fun (W:World) (hA:BoxA W (w.heap.size+2) (w.heap.size+6) (nrm a)) (hlow:Below w.heap.size w W) (h1:1≤k) (h8:k≤8) (hlg:longB k xv.length=true)=>show Calls Tryz.prog 142 #[.pointer (some ⟨w.heap.size+1+1,0,none⟩),.int .i64 k,.slice Av (u - t) (cb - t)] W (LayF (w.heap.size+2) (w.heap.size+6) (nrm a) k xv W) from by
        have h:=lay_any k Av (cb - t) xv W (w.heap.size+2) (w.heap.size+6) (nrm a) hA (by rw [hxl];exact HXU.out.keep hlow) h1 h8 hlg hll
        rw [hxl] at h
        exact h)
       have HNX:=hid (show n=xv.length by rw [hxl];have:=HT.out;omega)
       clear hxv hxl hxs hll HIS HD2 HAV hse
       go_upto_if 125 with fail
       go_cut [16] (fun s16 wx=>∃ s:Nat,s16=.int .i64 s∧Hid (s=subOf f k xv)∧Hid ((s=0→RdSt w (k :: seen) (nrm (layA a k xv)) wx)∧Lost w wx))
       case first =>
        cases unk with
        | true =>
         have hu8:=of_decide_eq_true HUNK.out.symm
         have HE:=hid (show layA a k xv=a by unfold layA;rw [if_pos hu8])
         by_cases hf2:f<128
         ·have y9:(f:Int)<128:=by omega
          have HS:=hid (show subOf f k xv=2 by unfold subOf;rw [if_pos hu8,if_pos hf2])
          clear hf2 hu8
          go_wp2
          go_meet
          exact ⟨2,rfl,hid HS.out.symm,hid ⟨fun h=>absurd h (by decide),S4.out.lost (Only.refl _ _)⟩⟩
         ·have y9:decide ((f:Int)<128)=false:=decide_eq_false (by omega)
          have HS:=hid (show subOf f k xv=0 by unfold subOf;rw [if_pos hu8,if_neg hf2])
          clear hf2 hu8
          go_wp2
          go_meet
          exact ⟨0,rfl,hid HS.out.symm,hid ⟨fun _=>by rw [HE.out];exact S4.out,S4.out.lost (Only.refl _ _)⟩⟩
        | false =>
         have hu8:=of_decide_eq_false HUNK.out.symm
         have HSK:=hid (show subOf f k xv=if ow≠flagN k then 4 else if longB k xv.length=false then 5 else fillR k xv by rw [sub_known hu8,HOW.out,fillR_is HFS.out.1 HFS.out.2.1])
         have CF:=hid (fun W=>show Calls Tryz.prog 127 #[.int .i64 k] W (Tells (.int .i64 (flagN k:Nat)) W) from by
          have h:=refFlags8 (k:Int) W
          rw [flagN_is] at h
          exact h)
         have CG:=hid (fun W=>show Calls Tryz.prog 141 #[.int .i64 k,.int .i64 n] W (Tells (.bool (longB k xv.length)) W) from by
          have h:=long8_any k n W (by omega) (by omega) (by omega)
          rw [show longB k n=longB k xv.length by rw [← HNX.out]] at h
          exact h)
         generalize flagN k=fl at HSK CF
         by_cases hfl:ow=fl
         ·have y10:((ow:Int) != (fl:Int))=false:=by simp [hfl]
          rw [if_neg (fun h=>h hfl)] at HSK
          cases hlg:longB k xv.length with
          | false =>
           rw [hlg] at CG HSK
           rw [if_pos rfl] at HSK
           clear hlg hfl hu8
           go_wp2_with (first
            | (go_at_call 127;refine (CF.out _).mono ?_;rintro e x1 ⟨rfl,hx⟩;have S5:=hid (S4.out.below hx);clear hx)
            | (go_at_call 141;refine (CG.out _).mono ?_;rintro e x2 ⟨rfl,hx⟩;have S6:=hid (S5.out.below hx);clear hx))
           go_meet
           exact ⟨5,rfl,hid HSK.out.symm,hid ⟨fun h=>absurd h (by decide),S6.out.lost (Only.refl _ _)⟩⟩
          | true =>
           rw [hlg] at CG HSK
           rw [if_neg (by decide)] at HSK
           have HLG:=hid (And.intro hlg hu8)
           clear hlg hfl hu8
           have CLW:=hid (fun W (h:RdSt w (k :: seen) (nrm a) W)=>CLY.out W h.box h.low (by have:=HLG.out.2;omega) (by have:=HLG.out.2;omega) HLG.out.1)
           unfold LayF at CLW
           go_wp2_with (first
            | (go_at_call 127;refine (CF.out _).mono ?_;rintro e x1 ⟨rfl,hx⟩;have S5:=hid (S4.out.below hx);clear hx)
            | (go_at_call 141;refine (CG.out _).mono ?_;rintro e x2 ⟨rfl,hx⟩;have S6:=hid (S5.out.below hx);clear hx)
            | (go_at_call 142;(refine (CLW.out _ S6.out).mono ?_;rintro e x3 ⟨rfl,ho,⟨q1,q2,q3,q4,q5,q6,q7,q8,hb9⟩,hg⟩;have L7:=hid (And.intro ho (And.intro hb9 hg));obtain ⟨c0,-⟩:=hb9.cells;have fB:=hb9.free;clear ho hb9 hg)))
           have HV:=hid (has_sum (k:=k) HI.out.2.2.fine.h0 HI.out.2.2.fine.h5 (by have:=HLG.out.2;omega))
           rw [show (nrm a).has=a.has from rfl,HV.out.1]
           have ho:=L7.out.1.set (b:=w.heap.size+2) (i:=0) rfl (.int .i64 (a.has+2 ^ k))
           go_meet
           refine ⟨fillR k xv,rfl,hid HSK.out.symm,hid ⟨fun h=>S6.out.fill ho ?_,S6.out.lost ho⟩⟩
           rw [← nrm_lay HLG.out.2]
           exact (L7.out.2.2 h).sethas _ HV.out.2
         ·have y10:((ow:Int) != (fl:Int))=true:=by simp;omega
          rw [if_pos hfl] at HSK
          clear hfl hu8
          go_wp2_with (go_at_call 127;refine (CF.out _).mono ?_;rintro e x1 ⟨rfl,hx⟩;have S5:=hid (S4.out.below hx);clear hx)
          go_meet
          exact ⟨4,rfl,hid HSK.out.symm,hid ⟨fun h=>absurd h (by decide),S5.out.lost (Only.refl _ _)⟩⟩
       case rest =>
       obtain ⟨s,rfl,HSS,HRL⟩:=hcut
       by_cases h11:s=11
       ·subst h11
        have HDC:=hid (show decodeA b=.inl ⟨3,(11:Nat),[]⟩ from HIS2.out.trans (by rw [← HSS.out,if_neg (by decide)];rfl))
        obtain ⟨c0,c1,c2,c3,c4,c5,c6,c7,c8⟩:=HRL.out.2.r9.cells
        have f9:=HRL.out.2.r9.free
        obtain ⟨p0,p1,p2,p3,p4,p5,p6,p7,p8⟩:=HRL.out.2.no9.cells
        obtain ⟨m0,m1,m2⟩:=(dec_mid HRL.out.2.n3 (.int .i64 0) (.int .i64 0) (.slice none 0 0) (.int .u32 0) (.int .u32 0) (.int .u32 0) (.int .u32 0) (.int .u32 0) (.slice none 0 0)).cells
        have f3:=(dec_mid HRL.out.2.n3 (.int .i64 0) (.int .i64 0) (.slice none 0 0) (.int .u32 0) (.int .u32 0) (.int .u32 0) (.int .u32 0) (.int .u32 0) (.slice none 0 0)).free
        unfold nine at m0 m1 m2 f3
        go_wp2
        clear c0 c1 c2 c3 c4 c5 c6 c7 c8 f9 p0 p1 p2 p3 p4 p5 p6 p7 p8 m0 m1 m2 f3
        obtain ⟨k1,k2,-⟩:=dec_end HRL.out.2.r9 HRL.out.2.n3 HRL.out.2.low (.int .i64 0) (.int .i64 0) (.slice none 0 0) (.int .u32 0) (.int .u32 0) (.int .u32 0) (.int .u32 0) (.int .u32 0) (.slice none 0 0) (.int .i64 3) (.int .i64 11) (.slice none 0 0)
        obtain ⟨r0,r1,r2,r3,r4,r5,r6,r7,r8⟩:=k1.cells
        obtain ⟨t0,t1,t2⟩:=k2.cells
        clear k1 k2
        unfold three nine at r0 r1 r2 r3 r4 r5 r6 r7 r8 t0 t1 t2
        refine bodyPost_ret (by simp [results,Tryz.results98,go_sem,r0,r1,r2,r3,r4,r5,r6,r7,r8,t0,t1,t2]) rfl ((dec_bad HRL.out.2.r9 HRL.out.2.n3 HRL.out.2.low HDC.out (note_three _ 11 (by decide))))
       ·have y11:((s:Int) == 11)=false:=by simp;omega
        by_cases h0:s=0
        ·subst h0
         have HDC:=hid (show decodeA b=decF (k :: seen) (layA a k xv) (b.drop u) from HIS2.out.trans (if_pos HSS.out.symm))
         have HFN:=hid (HI.out.2.2.lay HFS.out.1 HFS.out.2.1 HFS.out.2.2.2 HSS.out.symm)
         have hju:j<u:=by have:=HT.out;omega
         clear h11 y11
         go_wp2
         go_roundw
         case rel=>exact ⟨u,k :: seen,layA a k xv,rfl,hid ⟨g2,HDC.out,HFN.out⟩,hid (HRL.out.1 rfl)⟩
         case measure=>simp [intOf];omega
        ·have y12:((s:Int) != 0)=true:=by simp;omega
         have HDC:=hid (show decodeA b=.inl ⟨3,s,itemB f k xv⟩ from HIS2.out.trans (by rw [← HSS.out,if_neg h0];unfold badN;rw [if_neg h11]))
         have HSW:=hid (show (Lit.int .i64 (s:Int)).wf=true by
          have h:=(sub_bound f k xv).1
          rw [← HSS.out] at h
          simp [Lit.wf,IntKind.min,IntKind.max,IntKind.signed,IntKind.bits];omega)
         clear h0 h11
         obtain ⟨c0,c1,c2,c3,c4,c5,c6,c7,c8⟩:=HRL.out.2.r9.cells
         have f9:=HRL.out.2.r9.free
         obtain ⟨p0,p1,p2,p3,p4,p5,p6,p7,p8⟩:=HRL.out.2.no9.cells
         obtain ⟨m0,m1,m2⟩:=(dec_mid HRL.out.2.n3 (.int .i64 0) (.int .i64 0) (.slice none 0 0) (.int .u32 0) (.int .u32 0) (.int .u32 0) (.int .u32 0) (.int .u32 0) (.slice none 0 0)).cells
         have f3:=(dec_mid HRL.out.2.n3 (.int .i64 0) (.int .i64 0) (.slice none 0 0) (.int .u32 0) (.int .u32 0) (.int .u32 0) (.int .u32 0) (.int .u32 0) (.slice none 0 0)).free
         unfold nine at m0 m1 m2 f3
         go_wp2
         clear c0 c1 c2 c3 c4 c5 c6 c7 c8 f9 p0 p1 p2 p3 p4 p5 p6 p7 p8 m0 m1 m2 f3
         obtain ⟨k1,k2,-⟩:=dec_end HRL.out.2.r9 HRL.out.2.n3 HRL.out.2.low (.int .i64 0) (.int .i64 0) (.slice none 0 0) (.int .u32 0) (.int .u32 0) (.int .u32 0) (.int .u32 0) (.int .u32 0) (.slice none 0 0) (.int .i64 3) (.int .i64 s) (.slice (some ⟨blk,off+j,none⟩) (u - j) (cb - j))
         obtain ⟨r0,r1,r2,r3,r4,r5,r6,r7,r8⟩:=k1.cells
         obtain ⟨t0,t1,t2⟩:=k2.cells
         clear k1 k2
         unfold three nine at r0 r1 r2 r3 r4 r5 r6 r7 r8 t0 t1 t2
         refine bodyPost_ret (by simp [results,Tryz.results98,go_sem,r0,r1,r2,r3,r4,r5,r6,r7,r8,t0,t1,t2]) rfl ((dec_bad HRL.out.2.r9 HRL.out.2.n3 HRL.out.2.low HDC.out (show Note _ _ _ from ⟨show (Lit.int .i64 3).wf=true by decide,HSW.out,_,rfl,HALL.out.keep HRL.out.2.low⟩)))
     ·have z14:(u:Int) > (b.length:Int):=by omega
      have HDC:=hid (show decodeA b=.inl ⟨3,(1:Nat),[]⟩ from HI.out.2.1.trans (decF_none (fun e=>by have:=congrArg List.length e;simp at this;omega) (HI1.out (by have:=HT.out;omega))))
      go_wp2
      go_quiet (fail)
      go_wp2_with (go_at_call 95;(refine (CNM.out _ (ST.out.low.trans ((Mem.below_drewN _ _).mono ST.out.low.size))).mono ?_;rintro e x ⟨rfl,hx⟩;have S2:=hid ((ST.out.below (Mem.below_drewN _ _)).below hx);clear hx;obtain ⟨s0,s1⟩:=CE.out _ _ _ S2.out))
      clear CE HUJ CNM HT HHD HIT HKB HI1 HI2 e1 e2 e3 n63 z1 z2 z5 z6 z7 z8 z9 z10 z11 z12 z13 z14 s0 s1 ca ck ST
      have LD:=hid (S2.out.below (Below.refl x.heap.size x).drew)
      obtain ⟨c0,c1,c2,c3,c4,c5,c6,c7,c8⟩:=S2.out.r9.cells
      have f9:=S2.out.r9.free
      obtain ⟨p0,p1,p2,p3,p4,p5,p6,p7,p8⟩:=S2.out.no9.cells
      obtain ⟨m0,m1,m2⟩:=(dec_mid S2.out.n3 (.int .i64 0) (.int .i64 0) (.slice none 0 0) (.int .u32 0) (.int .u32 0) (.int .u32 0) (.int .u32 0) (.int .u32 0) (.slice none 0 0)).cells
      have f3:=(dec_mid S2.out.n3 (.int .i64 0) (.int .i64 0) (.slice none 0 0) (.int .u32 0) (.int .u32 0) (.int .u32 0) (.int .u32 0) (.int .u32 0) (.slice none 0 0)).free
      unfold nine at m0 m1 m2 f3
      obtain ⟨c0',c1',c2',c3',c4',c5',c6',c7',c8'⟩:=LD.out.r9.cells
      have f9':=LD.out.r9.free
      obtain ⟨p0',p1',p2',p3',p4',p5',p6',p7',p8'⟩:=LD.out.no9.cells
      obtain ⟨m0',m1',m2'⟩:=(dec_mid LD.out.n3 (.int .i64 0) (.int .i64 0) (.slice none 0 0) (.int .u32 0) (.int .u32 0) (.int .u32 0) (.int .u32 0) (.int .u32 0) (.slice none 0 0)).cells
      have f3':=(dec_mid LD.out.n3 (.int .i64 0) (.int .i64 0) (.slice none 0 0) (.int .u32 0) (.int .u32 0) (.int .u32 0) (.int .u32 0) (.int .u32 0) (.slice none 0 0)).free
      unfold nine at m0' m1' m2' f3'
      obtain ⟨l0,l1,l2⟩:=S2.out.ls.cells
      obtain ⟨l0',l1',l2'⟩:=LD.out.ls.cells
      (try go_wp2)
      go_region
      clear c0 c1 c2 c3 c4 c5 c6 c7 c8 f9 p0 p1 p2 p3 p4 p5 p6 p7 p8 m0 m1 m2 f3 c0' c1' c2' c3' c4' c5' c6' c7' c8' f9' p0' p1' p2' p3' p4' p5' p6' p7' p8' m0' m1' m2' f3' l0 l1 l2 l0' l1' l2'
      go_wp2
      obtain ⟨k1,k2,-⟩:=dec_end S2.out.r9 S2.out.n3 S2.out.low (.int .i64 0) (.int .i64 0) (.slice none 0 0) (.int .u32 0) (.int .u32 0) (.int .u32 0) (.int .u32 0) (.int .u32 0) (.slice none 0 0) (.int .i64 3) (.int .i64 1) (.slice none 0 0)
      obtain ⟨r0,r1,r2,r3,r4,r5,r6,r7,r8⟩:=k1.cells
      obtain ⟨t0,t1,t2⟩:=k2.cells
      clear k1 k2
      unfold three nine at r0 r1 r2 r3 r4 r5 r6 r7 r8 t0 t1 t2
      refine bodyPost_ret (by simp [results,Tryz.results98,go_sem,r0,r1,r2,r3,r4,r5,r6,r7,r8,t0,t1,t2]) rfl ((dec_bad S2.out.r9 S2.out.n3 S2.out.low HDC.out (note_three _ 1 (by decide))).drew)
    ·have z6:(j:Int)+(hd:Int) > (b.length:Int):=by omega
     have HDC:=hid (show decodeA b=.inl ⟨3,(1:Nat),[]⟩ from HI.out.2.1.trans (decF_none (fun e=>by have:=congrArg List.length e;simp at this;omega) (HIT.out.1 (by omega))))
     have LD:=hid (ST.out.below (Below.refl wc.heap.size wc).drew)
     obtain ⟨c0,c1,c2,c3,c4,c5,c6,c7,c8⟩:=ST.out.r9.cells
     have f9:=ST.out.r9.free
     obtain ⟨p0,p1,p2,p3,p4,p5,p6,p7,p8⟩:=ST.out.no9.cells
     obtain ⟨m0,m1,m2⟩:=(dec_mid ST.out.n3 (.int .i64 0) (.int .i64 0) (.slice none 0 0) (.int .u32 0) (.int .u32 0) (.int .u32 0) (.int .u32 0) (.int .u32 0) (.slice none 0 0)).cells
     have f3:=(dec_mid ST.out.n3 (.int .i64 0) (.int .i64 0) (.slice none 0 0) (.int .u32 0) (.int .u32 0) (.int .u32 0) (.int .u32 0) (.int .u32 0) (.slice none 0 0)).free
     unfold nine at m0 m1 m2 f3
     obtain ⟨c0',c1',c2',c3',c4',c5',c6',c7',c8'⟩:=LD.out.r9.cells
     have f9':=LD.out.r9.free
     obtain ⟨p0',p1',p2',p3',p4',p5',p6',p7',p8'⟩:=LD.out.no9.cells
     obtain ⟨m0',m1',m2'⟩:=(dec_mid LD.out.n3 (.int .i64 0) (.int .i64 0) (.slice none 0 0) (.int .u32 0) (.int .u32 0) (.int .u32 0) (.int .u32 0) (.int .u32 0) (.slice none 0 0)).cells
     have f3':=(dec_mid LD.out.n3 (.int .i64 0) (.int .i64 0) (.slice none 0 0) (.int .u32 0) (.int .u32 0) (.int .u32 0) (.int .u32 0) (.int .u32 0) (.slice none 0 0)).free
     unfold nine at m0' m1' m2' f3'
     obtain ⟨l0,l1,l2⟩:=ST.out.ls.cells
     obtain ⟨l0',l1',l2'⟩:=LD.out.ls.cells
     go_wp2
     go_region
     clear c0 c1 c2 c3 c4 c5 c6 c7 c8 f9 p0 p1 p2 p3 p4 p5 p6 p7 p8 m0 m1 m2 f3 c0' c1' c2' c3' c4' c5' c6' c7' c8' f9' p0' p1' p2' p3' p4' p5' p6' p7' p8' m0' m1' m2' f3' l0 l1 l2 l0' l1' l2'
     go_wp2
     obtain ⟨k1,k2,-⟩:=dec_end ST.out.r9 ST.out.n3 ST.out.low (.int .i64 0) (.int .i64 0) (.slice none 0 0) (.int .u32 0) (.int .u32 0) (.int .u32 0) (.int .u32 0) (.int .u32 0) (.slice none 0 0) (.int .i64 3) (.int .i64 1) (.slice none 0 0)
     obtain ⟨r0,r1,r2,r3,r4,r5,r6,r7,r8⟩:=k1.cells
     obtain ⟨t0,t1,t2⟩:=k2.cells
     clear k1 k2
     unfold three nine at r0 r1 r2 r3 r4 r5 r6 r7 r8 t0 t1 t2
     refine bodyPost_ret (by simp [results,Tryz.results98,go_sem,r0,r1,r2,r3,r4,r5,r6,r7,r8,t0,t1,t2]) rfl ((dec_bad ST.out.r9 ST.out.n3 ST.out.low HDC.out (note_three _ 1 (by decide))).drew)
   ·have z2:decide ((j:Int)+1<(b.length:Int))=false:=decide_eq_false (by omega)
    have z3:(j:Int)+3 > (b.length:Int):=by omega
    obtain ⟨x,hx⟩:=drop_one (b:=b) (j:=j) hlt (by omega)
    have HDC:=hid (show decodeA b=.inl ⟨3,(1:Nat),[]⟩ from HI.out.2.1.trans (decF_none (by rw [hx];simp) (by rw [hx];rfl)))
    clear hx
    have LD:=hid (ST.out.below (Below.refl wr.heap.size wr).drew)
    obtain ⟨c0,c1,c2,c3,c4,c5,c6,c7,c8⟩:=ST.out.r9.cells
    have f9:=ST.out.r9.free
    obtain ⟨p0,p1,p2,p3,p4,p5,p6,p7,p8⟩:=ST.out.no9.cells
    obtain ⟨m0,m1,m2⟩:=(dec_mid ST.out.n3 (.int .i64 0) (.int .i64 0) (.slice none 0 0) (.int .u32 0) (.int .u32 0) (.int .u32 0) (.int .u32 0) (.int .u32 0) (.slice none 0 0)).cells
    have f3:=(dec_mid ST.out.n3 (.int .i64 0) (.int .i64 0) (.slice none 0 0) (.int .u32 0) (.int .u32 0) (.int .u32 0) (.int .u32 0) (.int .u32 0) (.slice none 0 0)).free
    unfold nine at m0 m1 m2 f3
    obtain ⟨c0',c1',c2',c3',c4',c5',c6',c7',c8'⟩:=LD.out.r9.cells
    have f9':=LD.out.r9.free
    obtain ⟨p0',p1',p2',p3',p4',p5',p6',p7',p8'⟩:=LD.out.no9.cells
    obtain ⟨m0',m1',m2'⟩:=(dec_mid LD.out.n3 (.int .i64 0) (.int .i64 0) (.slice none 0 0) (.int .u32 0) (.int .u32 0) (.int .u32 0) (.int .u32 0) (.int .u32 0) (.slice none 0 0)).cells
    have f3':=(dec_mid LD.out.n3 (.int .i64 0) (.int .i64 0) (.slice none 0 0) (.int .u32 0) (.int .u32 0) (.int .u32 0) (.int .u32 0) (.int .u32 0) (.slice none 0 0)).free
    unfold nine at m0' m1' m2' f3'
    obtain ⟨l0,l1,l2⟩:=ST.out.ls.cells
    obtain ⟨l0',l1',l2'⟩:=LD.out.ls.cells
    go_wp2
    go_region
    clear c0 c1 c2 c3 c4 c5 c6 c7 c8 f9 p0 p1 p2 p3 p4 p5 p6 p7 p8 m0 m1 m2 f3 c0' c1' c2' c3' c4' c5' c6' c7' c8' f9' p0' p1' p2' p3' p4' p5' p6' p7' p8' m0' m1' m2' f3' l0 l1 l2 l0' l1' l2'
    go_wp2
    obtain ⟨k1,k2,-⟩:=dec_end ST.out.r9 ST.out.n3 ST.out.low (.int .i64 0) (.int .i64 0) (.slice none 0 0) (.int .u32 0) (.int .u32 0) (.int .u32 0) (.int .u32 0) (.int .u32 0) (.slice none 0 0) (.int .i64 3) (.int .i64 1) (.slice none 0 0)
    obtain ⟨r0,r1,r2,r3,r4,r5,r6,r7,r8⟩:=k1.cells
    obtain ⟨t0,t1,t2⟩:=k2.cells
    clear k1 k2
    unfold three nine at r0 r1 r2 r3 r4 r5 r6 r7 r8 t0 t1 t2
    refine bodyPost_ret (by simp [results,Tryz.results98,go_sem,r0,r1,r2,r3,r4,r5,r6,r7,r8,t0,t1,t2]) rfl ((dec_bad ST.out.r9 ST.out.n3 ST.out.low HDC.out (note_three _ 1 (by decide))).drew)
  ·have hjL:j=b.length:=by omega
   have HDC:=hid (show decodeA b=.inr (normA a) from by rw [HI.out.2.1,List.drop_of_length_le (by omega)];rfl)
   have z1:decide ((j:Int)<(b.length:Int))=false:=decide_eq_false (by omega)
   obtain ⟨hok,hlt9,Ap,np,cp,Ac,nc,cc,b9,hp,hc,hn⟩:=ST.out.box
   obtain ⟨k1,k2,k3⟩:=HI.out.2.2.norm
   have CM:=hid (show Calls Tryz.prog 122 #[.agg #[.int .i64 (nrm a).has,.int .i64 (nrm a).origin,.slice Ap np cp,.int .u32 ((nrm a).hop:Nat),.int .u32 ((nrm a).med:Nat),.int .u32 ((nrm a).pref:Nat),.int .u32 ((nrm a).aas:Nat),.int .u32 ((nrm a).aid:Nat),.slice Ac nc cc]] wr (GivesA (normA a) wr) from by
    have h:=refNorm8 (.agg #[.int .i64 (nrm a).has,.int .i64 (nrm a).origin,.slice Ap np cp,.int .u32 ((nrm a).hop:Nat),.int .u32 ((nrm a).med:Nat),.int .u32 ((nrm a).pref:Nat),.int .u32 ((nrm a).aas:Nat),.int .u32 ((nrm a).aid:Nat),.slice Ac nc cc]) (nrm a) wr ⟨hok,_,_,rfl,hp.segs,hc⟩ k1 k2 k3
    rw [normA_nrm] at h
    exact h)
   obtain ⟨c0,c1,c2,c3,c4,c5,c6,c7,c8⟩:=b9.cells
   clear b9 hp hc hn hok hjL k1 k2 k3
   generalize normA a=q at CM HDC
   go_wp2_with (go_at_call 122;(refine (CM.out).mono ?_;rintro e y ⟨v1,vp,vc,rfl,rfl,hq,hP,hC,hC32,hb⟩;have S2:=hid (ST.out.below hb);obtain ⟨ap,cp2,rfl⟩:=hP.form;obtain ⟨ac,cc2,rfl⟩:=own_form hC;have HQ:=hid (And.intro hq (And.intro hP (And.intro hC (And.intro hC32 ST.out.size))));obtain ⟨q0,q1,q2,q3,q4,q5,q6,q7,q8⟩:=q;dsimp only [acells];clear hb hq hP hC hC32 c0 c1 c2 c3 c4 c5 c6 c7 c8;obtain ⟨c0,c1,c2,c3,c4,c5,c6,c7,c8⟩:=S2.out.r9.cells;have f9:=S2.out.r9.free;obtain ⟨d0,d1,d2⟩:=(dec_mid S2.out.n3 (.int .i64 q0) (.int .i64 q1) (.slice ap q2.length cp2) (.int .u32 (q3:Nat)) (.int .u32 (q4:Nat)) (.int .u32 (q5:Nat)) (.int .u32 (q6:Nat)) (.int .u32 (q7:Nat)) (.slice ac q8.length cc2)).cells;have f3:=(dec_mid S2.out.n3 (.int .i64 q0) (.int .i64 q1) (.slice ap q2.length cp2) (.int .u32 (q3:Nat)) (.int .u32 (q4:Nat)) (.int .u32 (q5:Nat)) (.int .u32 (q6:Nat)) (.int .u32 (q7:Nat)) (.slice ac q8.length cc2)).free;unfold nine at d0 d1 d2 f3))
   obtain ⟨k1,k2,k3,k4,k5⟩:=dec_end S2.out.r9 S2.out.n3 S2.out.low (.int .i64 q0) (.int .i64 q1) (.slice ap q2.length cp2) (.int .u32 (q3:Nat)) (.int .u32 (q4:Nat)) (.int .u32 (q5:Nat)) (.int .u32 (q6:Nat)) (.int .u32 (q7:Nat)) (.slice ac q8.length cc2) (.int .i64 0) (.int .i64 0) (.slice none 0 0)
   have K:=hid (And.intro k3 (And.intro k4 k5))
   obtain ⟨r0,r1,r2,r3,r4,r5,r6,r7,r8⟩:=k1.cells
   obtain ⟨m0,m1,m2⟩:=k2.cells
   clear k1 k2 k3 k4 k5 c0 c1 c2 c3 c4 c5 c6 c7 c8 d0 d1 d2 f3 f9
   unfold three nine at r0 r1 r2 r3 r4 r5 r6 r7 r8 m0 m1 m2
   refine bodyPost_ret (v:=.tuple #[.agg #[.int .i64 q0,.int .i64 q1,.slice ap q2.length cp2,.int .u32 (q3:Nat),.int .u32 (q4:Nat),.int .u32 (q5:Nat),.int .u32 (q6:Nat),.int .u32 (q7:Nat),.slice ac q8.length cc2],.agg #[.int .i64 0,.int .i64 0,.slice none 0 0]]) (by simp [results,Tryz.results98,go_sem,r0,r1,r2,r3,r4,r5,r6,r7,r8,m0,m1,m2]) rfl ?_
   refine ⟨_,_,rfl,?_,?_,K.out.2.2⟩
   ·rw [HDC.out]
    have hz:=HQ.out.2.2.2.2
    exact ⟨HQ.out.1,_,_,rfl,segs_lower (segs_off HQ.out.2.1 (fun k hk=>K.out.1 k (by omega)) K.out.2.1) (by omega),U32s.of_own (own_off HQ.out.2.2.1 (fun k hk=>K.out.1 k (by omega))) HQ.out.2.2.2.1,newAt_own HQ.out.2.2.1 (by omega)⟩
   ·rw [HDC.out]
    exact note_zero _
end Att
namespace Att
open Segm Rise Oct
end Att
namespace Upd
open Oct Att PR
end Upd
namespace Msg
open Oct Att PR Opn Upd Ntc Frm
end Msg
namespace Att
open Go.RowKit Mem Segm Oct Seg
end Att
end Go.Proofs.YtjfmompgkkdliaaGreatDoor
