/- Part of the proof. -/
import Derived.Test.YtjfmompgkkdliaaGreatDoorH02
import Derived.Test.YtjfmompgkkdliaaGreatDoorH09
import Derived.Test.YtjfmompgkkdliaaGreatDoorH01
import Derived.BigQuiet
import Derived.BigRegion
import Derived.RegionTactic
import Derived.Test.YtjfmompgkkdliaaGreatDoorH00
import Derived.Lib.SmallJoins
open Go.Lib (hid)
set_option maxRecDepth 100000
set_option maxHeartbeats 40000000
namespace Go.Proofs.YtjfmompgkkdliaaGreatDoor
namespace Att
open Go.RowKit Mem Segm Oct
theorem keeps {W w1:World} (hb:Below W.heap.size W w1) {a:Addr} {v:Value} (h:W.cell? a=some v):w1.cell? a=some v :=
 (hb.cell (block_lt_of_cell h)).trans h
def sameA (a b:At):Bool:=decide (a.has=b.has) && decide (a.origin=b.origin) && decide (a.path=b.path) && decide (a.hop=b.hop) && decide (a.med=b.med) && decide (a.pref=b.pref) && decide (a.aas=b.aas) && decide (a.aid=b.aid) && decide (a.comms=b.comms)
theorem sameA_iff {a b:At}:sameA a b=true ↔ a=b:=by
 obtain ⟨a0,a1,a2,a3,a4,a5,a6,a7,a8⟩:=a
 obtain ⟨b0,b1,b2,b3,b4,b5,b6,b7,b8⟩:=b
 simp [sameA,and_assoc]
theorem two_boxes (w:World) (t:TypeId) (x0 x1 x2 x3 x4 x5 x6 x7 x8 y0 y1 y2 y3 y4 y5 y6 y7 y8:Value) :
  Box9 ((w.alloc (.cells #[x0,x1,x2,x3,x4,x5,x6,x7,x8] t)).alloc (.cells #[y0,y1,y2,y3,y4,y5,y6,y7,y8] t)) w.heap.size t x0 x1 x2 x3 x4 x5 x6 x7 x8 ∧
  Box9 ((w.alloc (.cells #[x0,x1,x2,x3,x4,x5,x6,x7,x8] t)).alloc (.cells #[y0,y1,y2,y3,y4,y5,y6,y7,y8] t)) (w.heap.size+1) t y0 y1 y2 y3 y4 y5 y6 y7 y8 ∧
  Below w.heap.size w ((w.alloc (.cells #[x0,x1,x2,x3,x4,x5,x6,x7,x8] t)).alloc (.cells #[y0,y1,y2,y3,y4,y5,y6,y7,y8] t)):=by
 have h1:=(Box9.new w t x0 x1 x2 x3 x4 x5 x6 x7 x8).keep ((Below.refl _ _).alloc (Nat.le_refl _) (.cells #[y0,y1,y2,y3,y4,y5,y6,y7,y8] t))
 have h2:=Box9.new (w.alloc (.cells #[x0,x1,x2,x3,x4,x5,x6,x7,x8] t)) t y0 y1 y2 y3 y4 y5 y6 y7 y8
 have e:(w.alloc (.cells #[x0,x1,x2,x3,x4,x5,x6,x7,x8] t)).heap.size=w.heap.size+1:=by simp
 rw [e] at h2
 exact ⟨h1,h2,((Below.refl _ w).alloc (Nat.le_refl _) _).alloc (by simp) _⟩
theorem refSame8 (va vb:Value) (a b:At) (w:World) (ha:Attrs w va a) (hb:Attrs w vb b):Calls Tryz.prog 71 #[va,vb] w (Tells (.bool (sameA a b)) w):=by
 obtain ⟨_,vp,vc,rfl,hp,hc⟩:=ha
 obtain ⟨_,vp',vc',rfl,hp',hc'⟩:=hb
 obtain ⟨h,o,p,hp0,md,pr,ag,ai,cm⟩:=a
 obtain ⟨h',o',p',hp0',md',pr',ag',ai',cm'⟩:=b
 dsimp only at hp hc hp' hc'
 obtain ⟨b1,b2,hb⟩:=two_boxes w 29 (.int .i64 h) (.int .i64 o) vp (.int .u32 hp0) (.int .u32 md) (.int .u32 pr) (.int .u32 ag) (.int .u32 ai) vc (.int .i64 h') (.int .i64 o') vp' (.int .u32 hp0') (.int .u32 md') (.int .u32 pr') (.int .u32 ag') (.int .u32 ai') vc'
 have CP:=hid (fun (W:World) (h:Below w.heap.size w W)=>Seg.same_any vp vp' p p' W (hp.keep h) (hp'.keep h))
 have CN:=hid (fun (W:World) (h:Below w.heap.size w W)=>Nums.refSame_any vc vc' cm cm' W (hc.keep h) (hc'.keep h))
 obtain ⟨c0,c1,c2,c3,c4,c5,c6,c7,c8⟩:=b1.cells
 obtain ⟨d0,d1,d2,d3,d4,d5,d6,d7,d8⟩:=b2.cells
 have HB:=hid hb
 have y0:(h == h')=decide (h=h'):=rfl
 have y1:(o == o')=decide (o=o'):=rfl
 have nat_eq:∀ m n:Nat,((m:Int) == (n:Int))=decide (m=n):=fun m n=>by show decide ((m:Int)=n)=_;rw [decide_eq_decide];omega
 have y3:=nat_eq hp0 hp0'
 have y4:=nat_eq md md'
 have y5:=nat_eq pr pr'
 have y6:=nat_eq ag ag'
 have y7:=nat_eq ai ai'
 unfold sameA
 dsimp only [acells]
 generalize decide (h=h')=r0 at y0 ⊢
 generalize decide (o=o')=r1 at y1 ⊢
 generalize decide (p=p')=r2 at CP ⊢
 generalize decide (hp0=hp0')=r3 at y3 ⊢
 generalize decide (md=md')=r4 at y4 ⊢
 generalize decide (pr=pr')=r5 at y5 ⊢
 generalize decide (ag=ag')=r6 at y6 ⊢
 generalize decide (ai=ai')=r7 at y7 ⊢
 generalize decide (cm=cm')=r8 at CN ⊢
 clear hb b1 b2 hp hp' hc hc' nat_eq
 rcases r0 with _ | _
 rotate_left
 rcases r1 with _ | _
 rotate_left
 rcases r2 with _ | _
 rotate_left
 rcases r3 with _ | _
 rotate_left
 rcases r4 with _ | _
 rotate_left
 rcases r5 with _ | _
 rotate_left
 rcases r6 with _ | _
 rotate_left
 rcases r7 with _ | _
 rotate_left
 rcases r8 with _ | _
 rotate_left
 all_goals
  go_enter Tryz.func71,Tryz.ntmps71
  go_wp2_with (first
   | (go_at_call 120;refine (CP.out _ HB.out).mono ?_;rintro e x ⟨rfl,hx⟩;replace c3:=keeps hx c3;replace d3:=keeps hx d3;replace c4:=keeps hx c4;replace d4:=keeps hx d4;replace c5:=keeps hx c5;replace d5:=keeps hx d5;replace c6:=keeps hx c6;replace d6:=keeps hx d6;replace c7:=keeps hx c7;replace d7:=keeps hx d7;replace c8:=keeps hx c8;replace d8:=keeps hx d8;replace HB:=hid (HB.out.trans (hx.mono HB.out.size));clear hx)
   | (go_at_call 121;refine (CN.out _ HB.out).mono ?_;rintro e x ⟨rfl,hx⟩;replace HB:=hid (HB.out.trans (hx.mono HB.out.size));clear hx))
  go_ret
  exact ⟨rfl,HB.out⟩
end Att
namespace Upd
open Go.RowKit Mem Oct Att PR
instance:DecidableEq Pf:=fun p q=>if h:p.a=q.a∧p.n=q.n then isTrue (by
  obtain ⟨a,n⟩:=p
  obtain ⟨b,m⟩:=q
  obtain ⟨h1,h2⟩:=h
  dsimp only at h1 h2
  rw [h1,h2]) else isFalse (fun e=>h (by rw [e];exact ⟨rfl,rfl⟩))
structure Up where
 gone:List Pf
 at_:At
 here:List Pf
def zeroU:Up:=⟨[],zeroA,[]⟩
def sameU (a b:Up):Bool:=decide (a.gone=b.gone) && decide (a.here=b.here) && sameA a.at_ b.at_
theorem sameU_iff {a b:Up}:sameU a b=true ↔ a=b:=by
 obtain ⟨a1,a2,a3⟩:=a
 obtain ⟨b1,b2,b3⟩:=b
 unfold sameU
 simp only [Bool.and_eq_true,decide_eq_true_eq,sameA_iff,Up.mk.injEq]
 constructor
 ·rintro ⟨⟨h1,h2⟩,h3⟩;exact ⟨h1,h3,h2⟩
 ·rintro ⟨h1,h3,h2⟩;exact ⟨⟨h1,h2⟩,h3⟩
def uV (a:At) (vg vp vc vh:Value):Value:=.agg #[vg,.int .i64 a.has,.int .i64 a.origin,vp,.int .u32 a.hop,.int .u32 a.med,.int .u32 a.pref,.int .u32 a.aas,.int .u32 a.aid,vc,vh]
def aV (a:At) (vp vc:Value):Value:=.agg #[.int .i64 a.has,.int .i64 a.origin,vp,.int .u32 a.hop,.int .u32 a.med,.int .u32 a.pref,.int .u32 a.aas,.int .u32 a.aid,vc]
def Upds (W:World) (v:Value) (u:Up):Prop:=∃ vg vp vc vh,v=uV u.at_ vg vp vc vh∧Pfxs W vg u.gone∧Attrs W (aV u.at_ vp vc) u.at_∧Pfxs W vh u.here
theorem Upds.keep {W W':World} {v:Value} {u:Up} (h:Upds W v u) (hb:Below W.heap.size W W'):Upds W' v u:=by
 obtain ⟨vg,vp,vc,vh,h1,h2,h3,h4⟩:=h
 exact ⟨vg,vp,vc,vh,h1,h2.keep hb,h3.keep hb,h4.keep hb⟩
theorem upds_zero (W:World):Upds W (uV zeroA (.slice none 0 0) (.slice none 0 0) (.slice none 0 0) (.slice none 0 0)) zeroU :=
 ⟨_,_,_,_,rfl,Pfxs.nil W,attrs_zero W,Pfxs.nil W⟩
structure BoxU (W:World) (B:Nat) (t:TypeId) (a:At) (vg vp vc vh:Value):Prop where
 blk:W.heap[B]?=some (.cells #[vg,.int .i64 a.has,.int .i64 a.origin,vp,.int .u32 a.hop,.int .u32 a.med,.int .u32 a.pref,.int .u32 a.aas,.int .u32 a.aid,vc,vh] t (0,0))
section
variable {W W':World} {B:Nat} {t:TypeId} {a:At} {vg vp vc vh:Value}
theorem BoxU.new (W:World) (t:TypeId) (a:At) (vg vp vc vh:Value):BoxU (W.alloc (.cells #[vg,.int .i64 a.has,.int .i64 a.origin,vp,.int .u32 a.hop,.int .u32 a.med,.int .u32 a.pref,.int .u32 a.aas,.int .u32 a.aid,vc,vh] t)) W.heap.size t a vg vp vc vh:=⟨heap_alloc_new _ _⟩
theorem BoxU.lt (h:BoxU W B t a vg vp vc vh):B<W.heap.size:=(Array.getElem?_eq_some_iff.1 h.blk).1
theorem BoxU.keep (h:BoxU W B t a vg vp vc vh) (hb:Below W.heap.size W W'):BoxU W' B t a vg vp vc vh:=⟨(hb.block B h.lt).trans h.blk⟩
theorem BoxU.far {C i:Nat} (h:BoxU W B t a vg vp vc vh) (hne:B≠C) (u:Value):BoxU (W.setCell ⟨C,i,none⟩ u) B t a vg vp vc vh:=⟨(Go.RowKit.Below.heap_setCell _ _ _ _ hne).trans h.blk⟩
theorem BoxU.below (h:BoxU W B t a vg vp vc vh) (hb:∀ k,k=B→W'.heap[k]?=W.heap[k]?):BoxU W' B t a vg vp vc vh:=⟨(hb B rfl).trans h.blk⟩
theorem BoxU.free (h:BoxU W B t a vg vp vc vh) (i:Nat):W.frozen? ⟨B,i,none⟩=false:=Go.Joins.unfrozen_of_block h.blk i
def UCells (W:World) (B:Nat) (a:At) (vg vp vc vh:Value):Prop:=W.cell? ⟨B,0,none⟩=some vg∧W.cell? ⟨B,1,none⟩=some (.int .i64 a.has)∧W.cell? ⟨B,2,none⟩=some (.int .i64 a.origin)∧W.cell? ⟨B,3,none⟩=some vp∧W.cell? ⟨B,4,none⟩=some (.int .u32 a.hop)∧W.cell? ⟨B,5,none⟩=some (.int .u32 a.med)∧W.cell? ⟨B,6,none⟩=some (.int .u32 a.pref)∧W.cell? ⟨B,7,none⟩=some (.int .u32 a.aas)∧W.cell? ⟨B,8,none⟩=some (.int .u32 a.aid)∧W.cell? ⟨B,9,none⟩=some vc∧W.cell? ⟨B,10,none⟩=some vh
theorem BoxU.cells (h:BoxU W B t a vg vp vc vh):UCells W B a vg vp vc vh:=by
 have hb:=h.blk
 simp [UCells,World.cell?,hb]
end
end Upd
namespace Att
open Go.RowKit Mem Segm Oct
end Att
end Go.Proofs.YtjfmompgkkdliaaGreatDoor
