/- Part of the proof. -/
import Derived.Test.YtjfmompgkkdliaaGreatDoorG26
import Derived.Test.YtjfmompgkkdliaaGreatDoorG40
import Derived.Test.YtjfmompgkkdliaaGreatDoorG39
import Derived.Test.YtjfmompgkkdliaaGreatDoorG20
import Derived.Test.YtjfmompgkkdliaaGreatDoorG09
import Derived.Test.YtjfmompgkkdliaaGreatDoorG06
import Derived.Test.YtjfmompgkkdliaaGreatDoorG10
import Derived.Test.YtjfmompgkkdliaaGreatDoorG25
import Derived.Test.YtjfmompgkkdliaaGreatDoorG19
import Derived.Test.YtjfmompgkkdliaaGreatDoorG27
import Derived.Test.YtjfmompgkkdliaaGreatDoorG03
import Derived.Test.YtjfmompgkkdliaaGreatDoorG01
import Derived.Test.YtjfmompgkkdliaaGreatDoorG23
import Derived.Test.YtjfmompgkkdliaaGreatDoorG02
import Derived.Test.YtjfmompgkkdliaaGreatDoorG07
import Derived.Test.YtjfmompgkkdliaaGreatDoorG04
open Go.Lib (hid)
set_option maxRecDepth 100000
set_option maxHeartbeats 40000000
namespace Go.Proofs.YtjfmompgkkdliaaGreatDoor
namespace Att
open Go.RowKit Mem Segm Oct Rise
def NewAt (n:Nat) (v:Value):Prop:=∀ b off m c,v=.slice (some ⟨b,off,none⟩) m c→0<m→n≤b
theorem u32_off {W W':World} {n:Nat} {v:Value} {l:List Nat} (h:U32s W v l) (hn:NewAt n v) (hk:∀ k,n≤k→W'.heap[k]?=W.heap[k]?) (hs:W.heap.size≤W'.heap.size):U32s W' v l:=by
 obtain ⟨⟨hl,A,c,rfl,hm,hc,hr⟩,hsm⟩:=h
 refine ⟨⟨hl,A,c,rfl,hm,hc,fun h0=>?_⟩,hsm⟩
 obtain ⟨b,off,rfl,hlt,hcell⟩:=hr h0
 refine ⟨b,off,rfl,Nat.lt_of_lt_of_le hlt hs,fun i y hy=>?_⟩
 have h5:=hcell i y hy
 have h6:=hk b (hn b off _ c rfl h0)
 unfold World.cell? at h5 ⊢
 simp only [h6]
 exact h5
theorem NewAt.lower {n m:Nat} {v:Value} (h:NewAt n v) (hm:m≤n):NewAt m v:=fun b off k c e h0=>Nat.le_trans hm (h b off k c e h0)
theorem NewAt.nil (n:Nat):NewAt n (.slice none 0 0):=fun b off m c e h0=>by injection e with e;cases e
def AtF (n:Nat) (W:World) (v:Value) (a:At):Prop:=a.ok∧∃ vp vc,v=.agg (acells a vp vc).toArray∧OwnSegsF 108 n n W vp a.path∧U32s W vc a.comms∧NewAt n vc
theorem AtF.attrs {n:Nat} {W:World} {v:Value} {a:At} (h:AtF n W v a):Attrs W v a:=by
 obtain ⟨h1,vp,vc,h2,h3,h4,h5⟩:=h
 exact ⟨h1,vp,vc,h2,h3.segs,h4⟩
theorem set_fresh (v:Value) (l:List Nat) (w:World) (hv:U32s w v l) (hlen:l.length<5000) :
  Calls Tryz.prog 163 #[v] w (fun e w'=>∃ v',e=.returned v'∧U32s w' v' (setOf l)∧NewAt w.heap.size v'∧Below w.heap.size w w'):=by
 rcases Nat.eq_zero_or_pos l.length with h0 | h0
 ·have e:l=[]:=List.length_eq_zero_iff.1 h0
  subst e
  refine (Srt.set_any v [] w hv hlen).mono ?_
  rintro e w' ⟨v',h1,h2,h3⟩
  refine ⟨v',h1,h2,fun b off m c e2 hm=>?_,h3⟩
  obtain ⟨A,c',e3,-,-,-,-⟩:=h2.open_
  rw [e2] at e3
  injection e3 with _ e4 _
  have:(setOf ([]:List Nat)).length=0:=rfl
  omega
 ·refine (Srt.set_new v l w hv h0 hlen).mono ?_
  rintro e w' ⟨⟨v',h1,h2,h3⟩,h4⟩
  exact ⟨v',h1,h2,fun b off m c e2 _=>h4 v' b off m c h1 e2,h3⟩
theorem pnorm_in (ha oa hb ob:Int) (vp0 vc0:Value) (hp md pr ag ai hp1 md1 pr1 ag1 ai1 np cp nc cc:Nat) (Ap Ac:Option Addr) (p:List Piece) (cm:List Nat) (w:World)
  (CP:Hid (∀ W,Below w.heap.size w W→Calls Tryz.prog 113 #[.agg #[.int .i64 ha,.int .i64 oa,vp0,.int .u32 hp,.int .u32 md,.int .u32 pr,.int .u32 ag,.int .u32 ai,vc0]] W (Tells (.agg #[.int .i64 hb,.int .i64 ob,.slice Ap np cp,.int .u32 hp1,.int .u32 md1,.int .u32 pr1,.int .u32 ag1,.int .u32 ai1,.slice Ac nc cc]) W)))
  (CN:Hid (∀ W,Below w.heap.size w W→Calls Tryz.prog 162 #[.slice Ap np cp] W (GivesSegsF 108 (normS p) W)))
  (CS:Hid (∀ W,Below w.heap.size w W→Calls Tryz.prog 163 #[.slice Ac nc cc] W (fun e w'=>∃ v',e=.returned v'∧U32s w' v' (setOf cm)∧NewAt W.heap.size v'∧Below W.heap.size W w'))) :
  Calls Tryz.prog 139 #[.agg #[.int .i64 ha,.int .i64 oa,vp0,.int .u32 hp,.int .u32 md,.int .u32 pr,.int .u32 ag,.int .u32 ai,vc0]] w (fun e w'=>∃ vq vr,e=.returned (.agg #[.int .i64 hb,.int .i64 ob,vq,.int .u32 hp1,.int .u32 md1,.int .u32 pr1,.int .u32 ag1,.int .u32 ai1,vr])∧OwnSegsF 108 w.heap.size w.heap.size w' vq (normS p)∧U32s w' vr (setOf cm)∧NewAt w.heap.size vr∧Below w.heap.size w w'):=by
 have S:=hid (pres_new w (.int .i64 ha) (.int .i64 oa) (vp0) (.int .u32 hp) (.int .u32 md) (.int .u32 pr) (.int .u32 ag) (.int .u32 ai) (vc0))
 obtain ⟨c0,c1,c2,c3,c4,c5,c6,c7,c8⟩:=S.out.b1.cells
 have ff:=S.out.b1.free
 go_enter Tryz.func139,Tryz.ntmps139
 go_upto_region 1 with fail
 go_cut [] from 3 (fun wx=>Hid (PresSt w (.int .i64 hb) (.int .i64 ob) (.slice Ap np cp) (.int .u32 hp1) (.int .u32 md1) (.int .u32 pr1) (.int .u32 ag1) (.int .u32 ai1) (.slice Ac nc cc) wx))
 case first =>
  go_wp2_with (go_at_call 113;(refine (CP.out _ S.out.low).mono ?_;rintro e x ⟨rfl,hx⟩;replace S:=hid (S.out.below hx);clear ff c0 c1 c2 c3 c4 c5 c6 c7 c8 hx;obtain ⟨c0,c1,c2,c3,c4,c5,c6,c7,c8⟩:=S.out.b1.cells;have ff:=S.out.b1.free))
  go_meet
  exact hid (((((((((S.out.set0 (.int .i64 hb)).set1 (.int .i64 ob)).set2 (.slice Ap np cp)).set3 (.int .u32 hp1)).set4 (.int .u32 md1)).set5 (.int .u32 pr1)).set6 (.int .u32 ag1)).set7 (.int .u32 ai1)).set8 (.slice Ac nc cc))
 case rest =>
 clear S c0 c1 c2 c3 c4 c5 c6 c7 c8 ff
 have S:=hcut
 clear hcut
 obtain ⟨c0,c1,c2,c3,c4,c5,c6,c7,c8⟩:=S.out.b1.cells
 have ff:=S.out.b1.free
 go_upto_region 3 with (go_at_call 162;(refine (CN.out _ S.out.low).mono ?_;rintro e y ⟨vq,rfl,hq,hy⟩;obtain ⟨Aq,cq,rfl⟩:=hq.form;generalize (normS p).length=nq at hq;have HN:=hid (show w.heap.size+1+1≤_ from S.out.b2.lt);have HQ:=hid (hq.lower HN.out HN.out);clear HN;replace S:=hid (S.out.below hy);clear hq ff c0 c1 c2 c3 c4 c5 c6 c7 c8;have ff:=S.out.b1.free;obtain ⟨-,-,c2,-,-,-,-,-,-⟩:=S.out.b1.cells;replace S:=hid (S.out.set2 (.slice Aq nq cq));obtain ⟨-,-,-,-,-,-,-,-,c8⟩:=S.out.b1.cells;clear hy))
 go_upto_region 4 with (go_at_call 163;(refine (CS.out _ S.out.low).mono ?_;rintro e z ⟨vr,rfl,hr,hn,hz⟩;obtain ⟨Ar,cr,rfl,-,-,-,-⟩:=hr.open_;generalize (setOf cm).length=nr at hr hn;have HN:=hid (show w.heap.size+1+1≤_ from S.out.b2.lt);have HR:=hid (And.intro hr (hn.lower HN.out));have HQ2:=hid ((segs_off HQ.out (off_set _ (by omega)) (by simp)).keep hz);replace S:=hid (S.out.below hz);clear hr hn HN HQ ff c2 c8;have ff:=S.out.b1.free;obtain ⟨-,-,-,-,-,-,-,-,k8⟩:=S.out.b1.cells;replace S:=hid (S.out.set8 (.slice Ar nr cr));obtain ⟨c0,c1,c2,c3,c4,c5,c6,c7,c8⟩:=S.out.b1.cells;obtain ⟨g0,g1,g2,g3,g4,g5,g6,g7,g8⟩:=S.out.b2.cells;have fg:=S.out.b2.free;clear hz))
 have B9:=(((((((((S.out.b2.set0 (.int .i64 hb)).set1 (.int .i64 ob)).set2 (.slice Aq nq cq)).set3 (.int .u32 hp1)).set4 (.int .u32 md1)).set5 (.int .u32 pr1)).set6 (.int .u32 ag1)).set7 (.int .u32 ai1)).set8 (.slice Ar nr cr))
 obtain ⟨r0,r1,r2,r3,r4,r5,r6,r7,r8⟩:=B9.cells
 go_wp2
 (try simp only [Exit.inBlock,Exit.then])
 refine bodyPost_ret (v:=.agg #[.int .i64 hb,.int .i64 ob,.slice Aq nq cq,.int .u32 hp1,.int .u32 md1,.int .u32 pr1,.int .u32 ag1,.int .u32 ai1,.slice Ar nr cr]) (by simp [results,Tryz.results139,go_sem,r0,r1,r2,r3,r4,r5,r6,r7,r8]) rfl ?_
 have hlo:=nine_low S.out.low (w.heap.size+1) (by omega) (.int .i64 hb) (.int .i64 ob) (.slice Aq nq cq) (.int .u32 hp1) (.int .u32 md1) (.int .u32 pr1) (.int .u32 ag1) (.int .u32 ai1) (.slice Ar nr cr)
 have hk:=nine_off (z.setCell ⟨w.heap.size,8,none⟩ (.slice Ar nr cr)) (w.heap.size+1) (.int .i64 hb) (.int .i64 ob) (.slice Aq nq cq) (.int .u32 hp1) (.int .u32 md1) (.int .u32 pr1) (.int .u32 ag1) (.int .u32 ai1) (.slice Ar nr cr)
 have hk1:∀ k,w.heap.size+1+1≤k→_:=fun k h=>(hk.1 k (by omega)).trans (off_set (n:=w.heap.size+1+1) (.slice Ar nr cr) (by omega) k h)
 have hsz:z.heap.size≤_:=Nat.le_trans (by simp) hk.2
 refine ⟨_,_,rfl,?_,?_,?_,hlo⟩
 ·exact OwnSegsF.lower (segs_off HQ2.out hk1 hsz) (by omega) (by omega)
 ·exact u32_off HR.out.1 HR.out.2 hk1 hsz
 ·exact HR.out.2.lower (by omega)
theorem pnormA_any (v:Value) (a:At) (w:World) (hv:Attrs w v a) (hbk:bulk a.path≤40000) (hfit:FitS 4999 a.path) (hcl:a.comms.length<5000) :
  Calls Tryz.prog 139 #[v] w (fun e w'=>∃ v',e=.returned v'∧AtF w.heap.size w' v' (normA a)∧Below w.heap.size w w'):=by
 obtain ⟨v',hp,hc⟩:=present_exact v a w hv
 have hokn:=normA_ok hv.1
 obtain ⟨_,vp0,vc0,rfl,-,-⟩:=hv
 have e1:normS (presA a).path=(normA a).path:=by unfold presA normA;dsimp only;split <;> rfl
 have e2:setOf (presA a).comms=(normA a).comms:=by unfold presA normA;dsimp only;split <;> rfl
 have b1:bulk (presA a).path≤40000:=by unfold presA;dsimp only;split;exact hbk;exact Nat.zero_le _
 have b2:FitS 4999 (presA a).path:=by unfold presA;dsimp only;split;exact hfit;exact fun s hs=>by cases hs
 have b3:(presA a).comms.length<5000:=by unfold presA;dsimp only;split;exact hcl;exact Nat.zero_lt_succ _
 obtain ⟨_,vp,vc,rfl,hP,hC⟩:=hp
 obtain ⟨Ap,cp,rfl,-,-⟩:=hP.form
 obtain ⟨Ac,cc,rfl,-,-,-,-⟩:=hC.open_
 have CN:=hid (fun W (h:Below w.heap.size w W)=>Seg.pnorm_any _ (presA a).path W (hP.keep h) b1 b2)
 have CS:=hid (fun W (h:Below w.heap.size w W)=>set_fresh _ (presA a).comms W (hC.keep h) b3)
 refine (pnorm_in a.has a.origin (presA a).has (presA a).origin vp0 vc0 a.hop a.med a.pref a.aas a.aid (presA a).hop (presA a).med (presA a).pref (presA a).aas (presA a).aid (presA a).path.length cp (presA a).comms.length cc Ap Ac (presA a).path (presA a).comms w (hid hc) CN CS).mono ?_
 rintro e w' ⟨vq,vr,rfl,h1,h2,h3,h4⟩
 refine ⟨_,rfl,⟨hokn,vq,vr,rfl,?_,?_,h3⟩,h4⟩
 ·rw [← e1];exact h1
 ·rw [← e2];exact h2
end Att
namespace Upd
open Go.RowKit Mem Segm Oct Att Seg PR
theorem newAt_row {W:World} {n m base:Nat} {t:TypeId} {v:Value} {xs:List Value} (h:W.ownsRow base t 1 v m xs) (hn:n≤base):NewAt n v:=fun b off k c e h0=>by
 have:=(h.lt b (by rw [e];rfl)).1
 omega
def UpdF (n:Nat) (W:World) (v:Value) (u:Up):Prop:=∃ Ag cg vp vc Ah ch,v=uV u.at_ (.slice Ag u.gone.length cg) vp vc (.slice Ah u.here.length ch)∧W.ownsRow n 67 2 (.slice Ag u.gone.length cg) u.gone.length (pcells u.gone)∧Oks u.gone ∧
 (u.at_.ok∧OwnSegsF 108 n n W vp u.at_.path∧U32s W vc u.at_.comms∧NewAt n vc)∧W.ownsRow n 67 2 (.slice Ah u.here.length ch) u.here.length (pcells u.here)∧Oks u.here
section
variable {n m:Nat} {W W':World} {v:Value} {u:Up}
theorem UpdF.upds (h:UpdF n W v u):Upds W v u:=by
 obtain ⟨Ag,cg,vp,vc,Ah,ch,h1,h2,h3,⟨h4,h5,h6,-⟩,h7,h8⟩:=h
 exact ⟨_,vp,vc,_,h1,Pfxs.of_own h2 h3,⟨h4,vp,vc,rfl,h5.segs,h6⟩,Pfxs.of_own h7 h8⟩
theorem UpdF.off (h:UpdF n W v u) (hk:∀ k,n≤k→W'.heap[k]?=W.heap[k]?) (hs:W.heap.size≤W'.heap.size):UpdF n W' v u:=by
 obtain ⟨Ag,cg,vp,vc,Ah,ch,h1,h2,h3,⟨h4,h5,h6,h9⟩,h7,h8⟩:=h
 exact ⟨Ag,cg,vp,vc,Ah,ch,h1,own_off h2 hk,h3,⟨h4,segs_off h5 hk hs,u32_off h6 h9 hk hs,h9⟩,own_off h7 hk,h8⟩
theorem UpdF.keep (h:UpdF n W v u) (hb:Below W.heap.size W W'):UpdF n W' v u:=by
 obtain ⟨Ag,cg,vp,vc,Ah,ch,h1,h2,h3,⟨h4,h5,h6,h9⟩,h7,h8⟩:=h
 exact ⟨Ag,cg,vp,vc,Ah,ch,h1,own_keep h2 hb,h3,⟨h4,h5.keep hb,h6.keep hb,h9⟩,own_keep h7 hb,h8⟩
theorem UpdF.lower (h:UpdF n W v u) (hm:m≤n):UpdF m W v u:=by
 obtain ⟨Ag,cg,vp,vc,Ah,ch,h1,h2,h3,⟨h4,h5,h6,h9⟩,h7,h8⟩:=h
 exact ⟨Ag,cg,vp,vc,Ah,ch,h1,own_base h2 hm,h3,⟨h4,h5.lower hm hm,h6,h9.lower hm⟩,own_base h7 hm,h8⟩
theorem updF_zero (n:Nat) (W:World):UpdF n W (uV zeroA (.slice none 0 0) (.slice none 0 0) (.slice none 0 0) (.slice none 0 0)) zeroU :=
 ⟨none,0,_,_,none,0,rfl,World.ownsRow_nil _ _ _ _,oks_nil,⟨zeroA_ok,nil_segsF _ _ _,U32s.nil W,NewAt.nil _⟩,World.ownsRow_nil _ _ _ _,oks_nil⟩
end
def GivesU (u:Up) (w:World) (e:Ending) (w':World):Prop:=∃ v,e=.returned v∧UpdF w.heap.size w' v u∧Below w.heap.size w w'
def elev (W:World) (B:Nat) (a:At) (vg vp vc vh:Value):World:=((((((((((W.setCell ⟨B,0,none⟩ vg).setCell ⟨B,1,none⟩ (.int .i64 a.has)).setCell ⟨B,2,none⟩ (.int .i64 a.origin)).setCell ⟨B,3,none⟩ vp).setCell ⟨B,4,none⟩ (.int .u32 a.hop)).setCell ⟨B,5,none⟩ (.int .u32 a.med)).setCell ⟨B,6,none⟩ (.int .u32 a.pref)).setCell ⟨B,7,none⟩ (.int .u32 a.aas)).setCell ⟨B,8,none⟩ (.int .u32 a.aid)).setCell ⟨B,9,none⟩ vc).setCell ⟨B,10,none⟩ vh
structure Box11 (W:World) (B:Nat) (t:TypeId) (x0 x1 x2 x3 x4 x5 x6 x7 x8 x9 x10:Value):Prop where
 blk:W.heap[B]?=some (.cells #[x0,x1,x2,x3,x4,x5,x6,x7,x8,x9,x10] t (0,0))
section
variable {W:World} {B:Nat} {t:TypeId} {x0 x1 x2 x3 x4 x5 x6 x7 x8 x9 x10:Value}
theorem Box11.set0 (h:Box11 W B t x0 x1 x2 x3 x4 x5 x6 x7 x8 x9 x10) (v:Value):Box11 (W.setCell ⟨B,0,none⟩ v) B t v x1 x2 x3 x4 x5 x6 x7 x8 x9 x10:=⟨by rw [Go.Joins.block_setCell h.blk];rfl⟩
theorem Box11.set1 (h:Box11 W B t x0 x1 x2 x3 x4 x5 x6 x7 x8 x9 x10) (v:Value):Box11 (W.setCell ⟨B,1,none⟩ v) B t x0 v x2 x3 x4 x5 x6 x7 x8 x9 x10:=⟨by rw [Go.Joins.block_setCell h.blk];rfl⟩
theorem Box11.set2 (h:Box11 W B t x0 x1 x2 x3 x4 x5 x6 x7 x8 x9 x10) (v:Value):Box11 (W.setCell ⟨B,2,none⟩ v) B t x0 x1 v x3 x4 x5 x6 x7 x8 x9 x10:=⟨by rw [Go.Joins.block_setCell h.blk];rfl⟩
theorem Box11.set3 (h:Box11 W B t x0 x1 x2 x3 x4 x5 x6 x7 x8 x9 x10) (v:Value):Box11 (W.setCell ⟨B,3,none⟩ v) B t x0 x1 x2 v x4 x5 x6 x7 x8 x9 x10:=⟨by rw [Go.Joins.block_setCell h.blk];rfl⟩
theorem Box11.set4 (h:Box11 W B t x0 x1 x2 x3 x4 x5 x6 x7 x8 x9 x10) (v:Value):Box11 (W.setCell ⟨B,4,none⟩ v) B t x0 x1 x2 x3 v x5 x6 x7 x8 x9 x10:=⟨by rw [Go.Joins.block_setCell h.blk];rfl⟩
theorem Box11.set5 (h:Box11 W B t x0 x1 x2 x3 x4 x5 x6 x7 x8 x9 x10) (v:Value):Box11 (W.setCell ⟨B,5,none⟩ v) B t x0 x1 x2 x3 x4 v x6 x7 x8 x9 x10:=⟨by rw [Go.Joins.block_setCell h.blk];rfl⟩
theorem Box11.set6 (h:Box11 W B t x0 x1 x2 x3 x4 x5 x6 x7 x8 x9 x10) (v:Value):Box11 (W.setCell ⟨B,6,none⟩ v) B t x0 x1 x2 x3 x4 x5 v x7 x8 x9 x10:=⟨by rw [Go.Joins.block_setCell h.blk];rfl⟩
theorem Box11.set7 (h:Box11 W B t x0 x1 x2 x3 x4 x5 x6 x7 x8 x9 x10) (v:Value):Box11 (W.setCell ⟨B,7,none⟩ v) B t x0 x1 x2 x3 x4 x5 x6 v x8 x9 x10:=⟨by rw [Go.Joins.block_setCell h.blk];rfl⟩
theorem Box11.set8 (h:Box11 W B t x0 x1 x2 x3 x4 x5 x6 x7 x8 x9 x10) (v:Value):Box11 (W.setCell ⟨B,8,none⟩ v) B t x0 x1 x2 x3 x4 x5 x6 x7 v x9 x10:=⟨by rw [Go.Joins.block_setCell h.blk];rfl⟩
theorem Box11.set9 (h:Box11 W B t x0 x1 x2 x3 x4 x5 x6 x7 x8 x9 x10) (v:Value):Box11 (W.setCell ⟨B,9,none⟩ v) B t x0 x1 x2 x3 x4 x5 x6 x7 x8 v x10:=⟨by rw [Go.Joins.block_setCell h.blk];rfl⟩
theorem Box11.set10 (h:Box11 W B t x0 x1 x2 x3 x4 x5 x6 x7 x8 x9 x10) (v:Value):Box11 (W.setCell ⟨B,10,none⟩ v) B t x0 x1 x2 x3 x4 x5 x6 x7 x8 x9 v:=⟨by rw [Go.Joins.block_setCell h.blk];rfl⟩
end
def Off (B:Nat) (W W':World):Prop:=(∀ k,k≠B→W'.heap[k]?=W.heap[k]?)∧W.heap.size≤W'.heap.size
theorem Off.refl (B:Nat) (W:World):Off B W W:=⟨fun _ _=>rfl,Nat.le_refl _⟩
theorem Off.set {B:Nat} {W W':World} (h:Off B W W') (i:Nat) (u:Value):Off B W (W'.setCell ⟨B,i,none⟩ u) :=
 ⟨fun k hk=>(Go.RowKit.Below.heap_setCell _ _ _ _ (show k≠(⟨B,i,none⟩:Addr).block from hk)).trans (h.1 k hk),by have:=h.2;simpa using this⟩
section
variable {W w:World} {B n:Nat} {t:TypeId} {a b:At} {vg vp vc vh yg yp yc yh:Value}
theorem elev_off (W:World) (B:Nat) (a:At) (vg vp vc vh:Value):Off B W (elev W B a vg vp vc vh) :=
 (((((((((((Off.refl B W).set 0 vg).set 1 (.int .i64 a.has)).set 2 (.int .i64 a.origin)).set 3 vp).set 4 (.int .u32 a.hop)).set 5 (.int .u32 a.med)).set 6 (.int .u32 a.pref)).set 7 (.int .u32 a.aas)).set 8 (.int .u32 a.aid)).set 9 vc).set 10 vh
theorem elev_low (h:Below n w W) (hB:n≤B) (a:At) (vg vp vc vh:Value):Below n w (elev W B a vg vp vc vh) :=
 (((((((((((h).setCell (p:=⟨B,0,none⟩) hB vg).setCell (p:=⟨B,1,none⟩) hB (.int .i64 a.has)).setCell (p:=⟨B,2,none⟩) hB (.int .i64 a.origin)).setCell (p:=⟨B,3,none⟩) hB vp).setCell (p:=⟨B,4,none⟩) hB (.int .u32 a.hop)).setCell (p:=⟨B,5,none⟩) hB (.int .u32 a.med)).setCell (p:=⟨B,6,none⟩) hB (.int .u32 a.pref)).setCell (p:=⟨B,7,none⟩) hB (.int .u32 a.aas)).setCell (p:=⟨B,8,none⟩) hB (.int .u32 a.aid)).setCell (p:=⟨B,9,none⟩) hB vc).setCell (p:=⟨B,10,none⟩) hB vh
theorem BoxU.laid (h:BoxU W B t b yg yp yc yh) (a:At) (vg vp vc vh:Value):BoxU (elev W B a vg vp vc vh) B t a vg vp vc vh :=
 ⟨(((((((((((((⟨h.blk⟩:Box11 W B t yg (.int .i64 b.has) (.int .i64 b.origin) yp (.int .u32 b.hop) (.int .u32 b.med) (.int .u32 b.pref) (.int .u32 b.aas) (.int .u32 b.aid) yc yh)).set0 vg).set1 (.int .i64 a.has)).set2 (.int .i64 a.origin)).set3 vp).set4 (.int .u32 a.hop)).set5 (.int .u32 a.med)).set6 (.int .u32 a.pref)).set7 (.int .u32 a.aas)).set8 (.int .u32 a.aid)).set9 vc).set10 vh).blk⟩
end
end Upd
namespace Upd
open Go.RowKit Mem Segm Oct Att Seg PR
def fewU (u:Up):Up:=⟨u.gone.take 30,fewA u.at_,u.here.take 30⟩
theorem fewU_twice (u:Up) (h:fewA (fewA u.at_)=fewA u.at_):fewU (fewU u)=fewU u:=by
 unfold fewU
 dsimp only
 rw [h]
 simp [List.take_take]
theorem few10_any (va:Value) (u:Up) (w:World) (ha:Upds w va u):Calls Tryz.prog 24 #[va] w (GivesU (fewU u) w):=by
 obtain ⟨vg,vp,vc,vh,rfl,hg,ht,hh⟩:=ha
 obtain ⟨g,a,h⟩:=u
 dsimp only at hg ht hh
 have HO:=hid (show Oks (g.take 30)∧Oks (h.take 30) from ⟨fun q hq=>hg.2 q (List.mem_of_mem_take hq),fun q hq=>hh.2 q (List.mem_of_mem_take hq)⟩)
 have C1:=hid (fun W (hb:Below w.heap.size w W)=>show Calls Tryz.prog 53 #[vg,.int .i64 30] W (GivesP (g.take 30) W) from few_any vg g 30 W (hg.keep hb) (by omega))
 have C2:=hid (fun W (hb:Below w.heap.size w W)=>few8_any _ a W (ht.keep hb))
 have C3:=hid (fun W (hb:Below w.heap.size w W)=>show Calls Tryz.prog 53 #[vh,.int .i64 30] W (GivesP (h.take 30) W) from few_any vh h 30 W (hh.keep hb) (by omega))
 unfold aV at C2
 have HF:=hid (show fewU ⟨g,a,h⟩=⟨g.take 30,fewA a,h.take 30⟩ from rfl)
 generalize fewU ⟨g,a,h⟩=R at HF ⊢
 generalize g.take 30=G at C1 HF HO
 generalize h.take 30=H at C3 HF HO
 generalize fewA a=q at C2 HF
 have K:=hid (two_upds w a zeroA vg vp vc vh (.slice none 0 0) (.slice none 0 0) (.slice none 0 0) (.slice none 0 0))
 obtain ⟨p0,p1,p2,p3,p4,p5,p6,p7,p8,p9,p10⟩:=K.out.1.cells
 unfold uV
 clear hg ht hh
 go_enter Tryz.func24,Tryz.ntmps24
 go_wp2
 have hb:Below _ _ _:=(Below.refl ((w.alloc (.cells #[vg,.int .i64 a.has,.int .i64 a.origin,vp,.int .u32 a.hop,.int .u32 a.med,.int .u32 a.pref,.int .u32 a.aas,.int .u32 a.aid,vc,vh] 31)).alloc (.cells #[.slice none 0 0,.int .i64 0,.int .i64 0,.slice none 0 0,.int .u32 0,.int .u32 0,.int .u32 0,.int .u32 0,.int .u32 0,.slice none 0 0,.slice none 0 0] 31)).heap.size ((w.alloc (.cells #[vg,.int .i64 a.has,.int .i64 a.origin,vp,.int .u32 a.hop,.int .u32 a.med,.int .u32 a.pref,.int .u32 a.aas,.int .u32 a.aid,vc,vh] 31)).alloc (.cells #[.slice none 0 0,.int .i64 0,.int .i64 0,.slice none 0 0,.int .u32 0,.int .u32 0,.int .u32 0,.int .u32 0,.int .u32 0,.slice none 0 0,.slice none 0 0] 31))).drew
 replace K:=hid (And.intro (K.out.1.keep hb) (And.intro (K.out.2.1.keep hb) (K.out.2.2.trans (hb.mono K.out.2.2.size))))
 clear hb
 clear p0 p1 p2 p3 p4 p5 p6 p7 p8 p9 p10
 obtain ⟨p0,p1,p2,p3,p4,p5,p6,p7,p8,p9,p10⟩:=K.out.1.cells
 refine wp_region_noPanic ?_
 refine wp_region_held_drew (S:=fun w'=>w'.cell? ⟨w.heap.size,0,none⟩=some vg∧w'.cell? ⟨w.heap.size,1,none⟩=some (.int .i64 a.has)∧w'.cell? ⟨w.heap.size,2,none⟩=some (.int .i64 a.origin)∧w'.cell? ⟨w.heap.size,3,none⟩=some vp∧w'.cell? ⟨w.heap.size,4,none⟩=some (.int .u32 a.hop)∧w'.cell? ⟨w.heap.size,5,none⟩=some (.int .u32 a.med)∧w'.cell? ⟨w.heap.size,6,none⟩=some (.int .u32 a.pref)∧w'.cell? ⟨w.heap.size,7,none⟩=some (.int .u32 a.aas)∧w'.cell? ⟨w.heap.size,8,none⟩=some (.int .u32 a.aid)∧w'.cell? ⟨w.heap.size,9,none⟩=some vc∧w'.cell? ⟨w.heap.size,10,none⟩=some vh) (by kernel_rfl) ⟨p0,p1,p2,p3,p4,p5,p6,p7,p8,p9,p10⟩ (fun hHeld=>?_)
 refine Take.tk 0 3 hHeld ?_
 refine Take.tk 1 4 hHeld ?_
 refine Take.tk 3 6 hHeld ?_
 try simp only [Act.put,Take.nm]
 refine Take.tk 4 7 hHeld ?_
 refine Take.tk 6 9 hHeld ?_
 refine Take.tk 7 10 hHeld ?_
 try simp only [Act.put,Take.nm]
 try simp only [Act.put,Take.nm]
 refine wpAnyH_ready (rs:=[2]) (by kernel_rfl) (by simp) ?_
 refine AllReadyH.cons (o:=_) (by rfl) (fun K1 hK=>?_) AllReadyH.nil
 go_simp
 go_at_call 53;(refine (C1.out _ K.out.2.2).mono ?_;rintro e z ⟨A1,c1,rfl,ho,hb⟩;have hs:=K.out.2.1.lt;replace K:=hid (And.intro (K.out.1.keep hb) (And.intro (K.out.2.1.keep hb) (K.out.2.2.trans (hb.mono K.out.2.2.size))));have U1:=hid (own_base ho (show w.heap.size+1+1≤_ from hs));clear ho;clear hb hs;clear p0 p1 p2 p3 p4 p5 p6 p7 p8 p9 p10;obtain ⟨p0,p1,p2,p3,p4,p5,p6,p7,p8,p9,p10⟩:=K.out.1.cells)
 refine hK.out _ _ ⟨p0,p1,p2,p3,p4,p5,p6,p7,p8,p9,p10⟩ (fun hHeld1=>?_)
 clear hK K1
 try simp only [Act.put,Take.nm]
 refine wpAnyH_ready (rs:=[5]) (by kernel_rfl) (by simp) ?_
 refine AllReadyH.cons (o:=_) (by rfl) (fun K1 hK=>?_) AllReadyH.nil
 go_simp
 go_at_call 54;(refine (C2.out _ K.out.2.2).mono ?_;rintro e z ⟨_,vq,vs,rfl,rfl,hq,hP,hC,hC32,hb⟩;have hs:=K.out.2.1.lt;replace K:=hid (And.intro (K.out.1.keep hb) (And.intro (K.out.2.1.keep hb) (K.out.2.2.trans (hb.mono K.out.2.2.size))));replace U1:=hid (own_keep U1.out hb);have Q1:=hid (And.intro hq (And.intro (hP.lower (show w.heap.size+1+1≤_ from hs) (show w.heap.size+1+1≤_ from hs)) (And.intro (U32s.of_own hC hC32) (newAt_row hC (show w.heap.size+1+1≤_ from hs)))));obtain ⟨ap,cp,rfl⟩:=hP.form;obtain ⟨ac,cc,rfl⟩:=own_form hC;clear hq hP hC hC32;dsimp only [acells];clear hb hs;clear p0 p1 p2 p3 p4 p5 p6 p7 p8 p9 p10;obtain ⟨p0,p1,p2,p3,p4,p5,p6,p7,p8,p9,p10⟩:=K.out.1.cells)
 refine hK.out _ _ ⟨p0,p1,p2,p3,p4,p5,p6,p7,p8,p9,p10⟩ (fun hHeld2=>?_)
 clear hK K1
 try simp only [Act.put,Take.nm]
 refine wpAnyH_ready (rs:=[8]) (by kernel_rfl) (by simp) ?_
 refine AllReadyH.cons (o:=_) (by rfl) (fun K1 hK=>?_) AllReadyH.nil
 go_simp
 go_at_call 53;(refine (C3.out _ K.out.2.2).mono ?_;rintro e z ⟨A3,c3,rfl,ho,hb⟩;have hs:=K.out.2.1.lt;replace K:=hid (And.intro (K.out.1.keep hb) (And.intro (K.out.2.1.keep hb) (K.out.2.2.trans (hb.mono K.out.2.2.size))));replace U1:=hid (own_keep U1.out hb);replace Q1:=hid (And.intro Q1.out.1 (And.intro (Q1.out.2.1.keep hb) (And.intro (Q1.out.2.2.1.keep hb) Q1.out.2.2.2)));have U3:=hid (own_base ho (show w.heap.size+1+1≤_ from hs));clear ho;clear hb hs;clear p0 p1 p2 p3 p4 p5 p6 p7 p8 p9 p10;obtain ⟨p0,p1,p2,p3,p4,p5,p6,p7,p8,p9,p10⟩:=K.out.1.cells)
 refine hK.out _ _ ⟨p0,p1,p2,p3,p4,p5,p6,p7,p8,p9,p10⟩ (fun hHeld3=>?_)
 clear hK K1
 try simp only [Act.put,Take.nm]
 refine Take.tk 9 12 hHeld3 ?_
 try simp only [Act.put,Take.nm]
 have fr:=K.out.2.1.free
 obtain ⟨e0,e1,e2,e3,e4,e5,e6,e7,e8,e9,e10⟩:=K.out.2.1.cells
 refine wpAnyH_ready (rs:=[10]) (by kernel_rfl) (by simp) ?_
 refine AllReadyH.cons (o:=_) (by rfl) (fun K1 hK=>?_) AllReadyH.nil
 go_simp
 have ho:=elev_off z (w.heap.size+1) q (.slice A1 G.length c1) (.slice ap q.path.length cp) (.slice ac q.comms.length cc) (.slice A3 H.length c3)
 have hx:=(K.out.1.below (W':=elev z (w.heap.size+1) q (.slice A1 G.length c1) (.slice ap q.path.length cp) (.slice ac q.comms.length cc) (.slice A3 H.length c3)) (fun k hk=>ho.1 k (by omega))).cells
 have hy:=(K.out.2.1.laid q (.slice A1 G.length c1) (.slice ap q.path.length cp) (.slice ac q.comms.length cc) (.slice A3 H.length c3)).cells
 clear fr e0 e1 e2 e3 e4 e5 e6 e7 e8 e9 e10 ho
 refine hK.out _ _ hx (fun hHeld4=>?_)
 clear hK K1 hHeld4 hHeld3 hHeld2 hHeld1 hHeld p0 p1 p2 p3 p4 p5 p6 p7 p8 p9 p10 hx
 try simp only [Act.put,Take.nm]
 refine wpAnyH_done (by kernel_rfl) ?_ _
 refine NoPanic.normal ?_
 go_wp2
 (try simp only [Exit.inBlock,Exit.then])
 obtain ⟨r0,r1,r2,r3,r4,r5,r6,r7,r8,r9,r10⟩:=hy
 unfold elev at r0 r1 r2 r3 r4 r5 r6 r7 r8 r9 r10
 refine bodyPost_ret (v:=uV q (.slice A1 G.length c1) (.slice ap q.path.length cp) (.slice ac q.comms.length cc) (.slice A3 H.length c3)) (by simp [results,Tryz.results24,go_sem,uV,r0,r1,r2,r3,r4,r5,r6,r7,r8,r9,r10]) rfl ?_
 have ho:=elev_off z (w.heap.size+1) q (.slice A1 G.length c1) (.slice ap q.path.length cp) (.slice ac q.comms.length cc) (.slice A3 H.length c3)
 have hlo:=elev_low K.out.2.2 (B:=w.heap.size+1) (by omega) q (.slice A1 G.length c1) (.slice ap q.path.length cp) (.slice ac q.comms.length cc) (.slice A3 H.length c3)
 have hF:UpdF (w.heap.size+1+1) z (uV q (.slice A1 G.length c1) (.slice ap q.path.length cp) (.slice ac q.comms.length cc) (.slice A3 H.length c3)) ⟨G,q,H⟩:=⟨A1,c1,_,_,A3,c3,rfl,U1.out,HO.out.1,Q1.out,U3.out,HO.out.2⟩
 rw [HF.out]
 exact ⟨_,rfl,(hF.off (fun k hk=>ho.1 k (by omega)) ho.2).lower (by omega),hlo⟩
end Upd
namespace Msg
open Go.RowKit Mem Segm Oct Att Seg PR Opn Upd Ntc Frm
open Go.Lib (hid)
def fewN (n:No):No:=⟨n.code,n.sub,n.data.take 100⟩
def fewM (m:Ms):Ms:=⟨m.kind,m.op,fewU m.up,fewN m.no⟩
def NoteF (n:Nat) (W:World) (v:Value) (x:No):Prop:=(Lit.int .i64 x.code).wf=true∧(Lit.int .i64 x.sub).wf=true∧∃ A c,v=.agg #[.int .i64 x.code,.int .i64 x.sub,.slice A x.data.length c]∧W.ownsRow n 5 1 (.slice A x.data.length c) x.data.length (cells8 x.data)∧Small x.data
theorem NoteF.note {n:Nat} {W:World} {v:Value} {x:No} (h:NoteF n W v x):Note W v x:=let ⟨h1,h2,_,_,h3,h4,h5⟩:=h;⟨h1,h2,_,h3,U8s.of_own h4 h5⟩
theorem NoteF.keep {n:Nat} {W W':World} {v:Value} {x:No} (h:NoteF n W v x) (hb:Below W.heap.size W W'):NoteF n W' v x:=let ⟨h1,h2,A,c,h3,h4,h5⟩:=h;⟨h1,h2,A,c,h3,own_keep h4 hb,h5⟩
def MsF (n:Nat) (W:World) (v:Value) (m:Ms):Prop:=∃ U N,v=.agg (mcells m.kind (ocells m.op) U N).toArray∧Parts (ocells m.op) U N∧m.op.ok∧UpdF n W (.agg U.toArray) m.up∧NoteF n W (.agg N.toArray) m.no
theorem MsF.msgs {n:Nat} {W:World} {v:Value} {m:Ms} (h:MsF n W v m):Msgs W v m:=let ⟨U,N,h1,h2,h3,h4,h5⟩:=h;⟨U,N,h1,h2,h3,h4.upds,h5.note⟩
theorem MsF.keep {n:Nat} {W W':World} {v:Value} {m:Ms} (h:MsF n W v m) (hb:Below W.heap.size W W'):MsF n W' v m:=let ⟨U,N,h1,h2,h3,h4,h5⟩:=h;⟨U,N,h1,h2,h3,h4.keep hb,h5.keep hb⟩
theorem parts_u {O U N U2:List Value} (h:Parts O U N) {n:Nat} {W:World} {u:Up} (hu:UpdF n W (.agg U2.toArray) u):Parts O U2 N:=by
 obtain ⟨Ag,cg,vp,vc,Ah,ch,e,-,-,⟨-,h5,h6,-⟩,-,-⟩:=hu
 obtain ⟨Ap,cp,rfl,-,-⟩:=h5.segs.form
 obtain ⟨Ac,cc,rfl,-,-,-,-⟩:=h6.open_
 obtain rfl:=agg_inj (B:=[_,_,_,_,_,_,_,_,_,_,_]) e
 exact ⟨h.lo,rfl,h.ln,h.oo,by simp [Value.oneCell'],h.on,fun v hv=>hv.elim (fun k=>h.n8 v (.inl k)) (fun k=>k.elim (no8_of (by rfl) v) (fun k=>h.n8 v (.inr (.inr k))))⟩
theorem updF_agg {n:Nat} {W:World} {v:Value} {u:Up} (h:UpdF n W v u):∃ U:List Value,v=.agg U.toArray:=by
 obtain ⟨Ag,cg,vp,vc,Ah,ch,e,-⟩:=h
 exact ⟨[_,_,_,_,_,_,_,_,_,_,_],e⟩
theorem BoxM.setD {W:World} {B:Nat} {k:Int} {O U:List Value} {x y z d:Value} (h:BoxM W B k O U [x,y,z]) (hd:d.oneCell'=true) (h8:No8 d):BoxM (W.setCell ⟨B,18,none⟩ d) B k O U [x,y,d]∧Turned B W (W.setCell ⟨B,18,none⟩ d):=by
 have hm:∀ v∈[x,y,d],v∈[x,y,z]∨v=d:=fun v hv=>by
  simp only [List.mem_cons,List.not_mem_nil,or_false] at hv ⊢
  rcases hv with rfl | rfl | rfl
  ·exact .inl (.inl rfl)
  ·exact .inl (.inr (.inl rfl))
  ·exact .inr rfl
 have hp:Parts O U [x,y,d]:=⟨h.parts.lo,h.parts.lu,rfl,h.parts.oo,h.parts.ou,fun v hv=>(hm v hv).elim (h.parts.on v) (fun e=>e ▸ hd),fun v hv=>hv.elim (fun q=>h.parts.n8 v (.inl q)) (fun q=>q.elim (fun q=>h.parts.n8 v (.inr (.inl q))) (fun q=>(hm v q).elim (fun q=>h.parts.n8 v (.inr (.inr q))) (fun e=>e ▸ h8)))⟩
 have hc:∀ i,i≠18→(W.setCell ⟨B,18,none⟩ d).cell? ⟨B,i,none⟩=W.cell? ⟨B,i,none⟩:=fun i hi=>World.cell?_setCell_other _ _ _ _ (fun e=>hi (by injection e with _ e;exact e.symm))
 have h18:W.cell? ⟨B,18,none⟩=some z:=h.rN 2 z rfl
 have hl:=h.parts.lo
 have hu:=h.parts.lu
 refine ⟨⟨by have:=h.lt;simpa using this,hp,(hc 0 (by decide)).trans h.c0,fun j v hv=>(hc _ ?_).trans (h.rO j v hv),fun j v hv=>(hc _ ?_).trans (h.rU j v hv),fun j v hv=>?_,fun i=>?_,fun i hi=>(hc i (by omega)).trans (h.top i hi)⟩,turned_cells B [d] 18 W⟩
 ·have:=(List.getElem?_eq_some_iff.1 hv).1;omega
 ·have:=(List.getElem?_eq_some_iff.1 hv).1;omega
 ·match j,hv with
  | 0,hv=>exact (hc 16 (by decide)).trans (h.rN 0 v hv)
  | 1,hv=>exact (hc 17 (by decide)).trans (h.rN 1 v hv)
  | 2,hv =>
   injection hv with hv
   rw [← hv]
   exact World.cell?_setCell_same _ _ _ h18
 ·have:=World.frozen?_setCells B [d] 18 W ⟨B,i,none⟩
  exact this.trans (h.free i)
theorem few13 (v:Value) (m:Ms) (w:World) (h:Msgs w v m):Calls Tryz.prog 7 #[v] w (fun e w'=>∃ x,e=.returned x∧MsF w.heap.size w' x (fewM m)∧Below w.heap.size w w'):=by
 obtain ⟨U,N,rfl,hp,ho,hu,hn⟩:=h
 obtain ⟨k,o,u,n⟩:=m
 dsimp only at hp ho hu hn ⊢
 obtain ⟨hc,hs,vd,e,hd⟩:=hn
 obtain rfl:N=[.int .i64 n.code,.int .i64 n.sub,vd]:=agg_inj e
 obtain ⟨Ad,cd,rfl,hc1,hc2⟩:=hd.form
 obtain ⟨b1,b2,b3⟩:=on_start (k:=k) w hp
 have B1:=hid b1
 have B2:=hid b2
 have HB:=hid b3
 have HU:=hid (hu.keep b3)
 have HD:=hid hd
 have HQ:=hid (And.intro ho (And.intro hc hs))
 have CU:=hid (fun v W (h:Upds W v u)=>few10_any v u W h)
 have CD:=hid (fun v W (h:U8s W v n.data)=>show Calls Tryz.prog 19 #[v,.int .i64 100] W (Gives8 (n.data.take 100) W) from bytes_any v n.data 100 W h (by decide))
 have HSM:=hid (hd.2.take 100)
 clear b1 b2 b3 hu hd ho hc hs e
 unfold z19 at B1 B2 HB HU
 obtain ⟨w1,hw1⟩:∃ w1,(w.alloc (.cells (mcells k (ocells o) U [.int .i64 n.code,.int .i64 n.sub,.slice Ad n.data.length cd]).toArray 36)).alloc (.cells #[.int .i64 0,.int .u32 0,.int .i64 0,.int .u32 0,.bool false,.slice none 0 0,.int .i64 0,.int .i64 0,.slice none 0 0,.int .u32 0,.int .u32 0,.int .u32 0,.int .u32 0,.int .u32 0,.slice none 0 0,.slice none 0 0,.int .i64 0,.int .i64 0,.slice none 0 0] 36)=w1:=⟨_,rfl⟩
 rw [hw1] at B1 B2 HB HU
 have hsz:w.heap.size+2=w1.heap.size:=by rw [← hw1];simp
 have HSZ:=hid hsz
 clear hsz
 unfold GivesU at CU
 unfold Gives8 at CD
 obtain ⟨D,hD⟩:∃ D,n.data.take 100=D:=⟨_,rfl⟩
 rw [hD] at CD HSM
 have HDE:=hid (show (fewM ⟨k,o,u,n⟩).no=⟨n.code,n.sub,D⟩ from by show No.mk n.code n.sub (n.data.take 100)=_;rw [hD])
 clear hD
 go_enter Tryz.func7,Tryz.ntmps7
 go_upto_region 2 with (first
  | (have tok:=HU.out;refine load_u B1.out _ rfl rfl (by kernel_rfl) ?_;have T1:=hid True.intro;clear tok)
  | (have tok:=T1.out;go_at_call 24;refine (CU.out _ _ HU.out).mono ?_;rintro e x ⟨v2,rfl,huf,hb⟩;obtain ⟨U2,rfl⟩:=updF_agg huf;have F2:=hid huf;have P2:=hid (parts_u B1.out.parts huf);have S1:=hid hb.size;replace B1:=hid (B1.out.keep hb);replace B2:=hid (B2.out.keep hb);replace HB:=hid (HB.out.trans (hb.mono HB.out.size));have T2:=hid True.intro;clear T1 tok huf hb HU)
  | (have tok:=T2.out;refine store_u B1.out P2.out _ _ rfl rfl rfl (by kernel_rfl) ?_;intro x2 hb ht;have HT:=hid ht;have B3:=hid hb;clear T2 tok hb ht))
 have hne:=HSZ.out
 have HB2:=hid (HT.out.low (Nat.le_refl _) HB.out)
 have F3:=hid (F2.out.off (fun k hk=>HT.out.block k (by omega)) (Nat.le_of_eq HT.out.size.symm))
 have R2:=hid (B2.out.turned HT.out (by omega))
 have d18:x2.cell? ⟨w.heap.size,18,none⟩=some _:=B3.out.rN 2 _ rfl
 have S2:=hid (show w1.heap.size≤x2.heap.size by rw [HT.out.size];exact S1.out)
 clear hw1 hne F2 HT B1 B2 HB
 go_upto_region 3 with (go_at_call 19;refine (CD.out _ _ (HD.out.keep HB2.out)).mono ?_;rintro e y ⟨A3,c3,rfl,hown,hb⟩;have O3:=hid hown;have B4:=hid (B3.out.keep hb);have R4:=hid (R2.out.keep hb);have F4:=hid (F3.out.keep hb);have HB4:=hid (HB2.out.trans (hb.mono HB2.out.size));have hsx:=HB2.out.size;clear hown hb d18 B3 R2 F3;have d18:y.cell? ⟨w.heap.size,18,none⟩=some _:=B4.out.rN 2 _ rfl;have f18:=B4.out.free 18)
 have hT:=B4.out.setD (d:=.slice A3 D.length c3) rfl (no8_s _ _ _)
 have B5:=hid hT.1
 have T5:=hid hT.2
 have R5:=hid (R4.out.turned hT.2 (by omega))
 have hne:=HSZ.out
 clear hT d18 f18 B4
 generalize y.setCell ⟨w.heap.size,18,none⟩ (.slice A3 D.length c3)=z at B5 T5 R5 ⊢
 have T1:=hid True.intro
 go_wp2_with (first
  | (have tok:=T1.out;refine load_m B5.out _ rfl rfl (by kernel_rfl) ?_;have T2:=hid tok;clear T1 tok)
  | (have tok:=T2.out;refine store_m R5.out B5.out.parts _ _ rfl rfl rfl (by kernel_rfl) ?_;intro w9 hb ht;have BR:=hid hb;have HR:=hid ht;clear T2 tok hb ht))
 refine bodyPost_ret (res_msg rfl rfl BR.out) rfl ?_
 have hb9:=HR.out.low (Nat.le_succ _) (T5.out.low (Nat.le_refl _) HB4.out)
 have hs9:y.heap.size≤w9.heap.size:=by rw [HR.out.size,T5.out.size];exact Nat.le_refl _
 have hk9:∀ k,w1.heap.size≤k→w9.heap[k]?=y.heap[k]?:=fun k hk=>(HR.out.block k (by omega)).trans (T5.out.block k (by omega))
 have hN:NoteF w.heap.size w9 (.agg #[.int .i64 n.code,.int .i64 n.sub,.slice A3 D.length c3]) (fewM ⟨k,o,u,n⟩).no:=by
  rw [HDE.out]
  exact ⟨HQ.out.2.1,HQ.out.2.2,A3,c3,rfl,own_base (own_off O3.out (fun k hk=>hk9 k (Nat.le_trans S2.out hk))) HB2.out.size,HSM.out⟩
 exact ⟨_,rfl,⟨U2,_,rfl,B5.out.parts,HQ.out.1,(F4.out.off hk9 hs9).lower (by omega),hN⟩,hb9⟩
end Msg
namespace Att
open Go.RowKit Mem Segm Oct Nums
def leftN (l:List Nat) (bad:Bool):Nat→List Nat × Bool
 | 0=>(l,bad)
 | k+1=>(rest (leftN l bad k).1 (leftN l bad k).2 4,fails (leftN l bad k).1 (leftN l bad k).2 4)
def tookN (l:List Nat) (bad:Bool):Nat→List Nat
 | 0=>[]
 | k+1=>tookN l bad k ++ [val (got (leftN l bad k).1 (leftN l bad k).2 4)]
theorem tookN_len (l:List Nat) (bad:Bool):∀ k,(tookN l bad k).length=k
 | 0=>rfl
 | k+1=>by unfold tookN;rw [List.length_append,tookN_len l bad k];rfl
theorem leftN_small {l:List Nat} {bad:Bool} (h:Small l):∀ k,Small (leftN l bad k).1
 | 0=>h
 | k+1=>by
  unfold leftN rest
  split
  ·exact small_nil
  ·exact (leftN_small h k).drop _
theorem took_good {l:List Nat}:∀ k:Nat,4*k≤l.length→leftN l false k=(l.drop (4*k),false)∧tookN l false k=quadsN l k
 | 0,_=>by simp [leftN,tookN,quadsN]
 | k+1,h=>by
  obtain ⟨h1,h2⟩:=took_good (l:=l) k (by omega)
  have hf:fails (l.drop (4*k)) false 4=false:=by
   simp only [fails,Bool.false_or,Bool.or_eq_false_iff,decide_eq_false_iff_not,List.length_drop]
   omega
  unfold leftN tookN
  rw [h1,h2,quadsN_succ]
  refine ⟨?_,?_⟩
  ·show (rest _ false 4,fails _ false 4)=_
   rw [hf]
   unfold rest
   rw [hf,if_neg (by decide),List.drop_drop]
   congr 2
  ·show quadsN l k ++ [val (got _ false 4)]=_
   unfold got
   rw [hf,if_neg (by decide)]
   rfl
theorem left_bad {l:List Nat}:∀ k:Nat,(leftN l true k).2=true
 | 0=>rfl
 | k+1=>by
  unfold leftN
  show fails _ _ 4=true
  rw [left_bad (l:=l) k]
  simp [fails]
theorem took_bad {l:List Nat}:∀ k:Nat,l.length<4*k→(leftN l false k).2=true
 | 0,h=>by omega
 | k+1,h=>by
  by_cases hk:4*k≤l.length
  ·obtain ⟨h1,h2⟩:=took_good (l:=l) k hk
   unfold leftN
   rw [h1]
   show fails _ false 4=true
   simp only [fails,Bool.false_or,Bool.or_eq_true,decide_eq_true_eq,List.length_drop]
   omega
  ·have:=took_bad (l:=l) k (by omega)
   unfold leftN
   show fails _ _ 4=true
   rw [this]
   simp [fails]
def TakeN (base n:Nat) (v:Value) (F:Nat→Prop) (l:List Nat) (bad:Bool) (k:Nat) (w:World) (e:Ending) (w':World):Prop :=
 ∃ A c,e=.returned (.slice A k c)∧U32s w' (.slice A k c) (tookN l bad k)∧NewAt w.heap.size (.slice A k c)∧R w' base n v (leftN l bad k).1 (leftN l bad k).2 F∧Only F w w'
structure TkSt (base n:Nat) (v:Value) (F:Nat→Prop) (w0:World) (l:List Nat) (bad:Bool) (u:Value) (m:Nat) (xs:List Nat) (W:World):Prop where
 rd:R W base n v l bad F
 own:W.ownsRow w0.heap.size 22 1 u m (xs.map fun n:Nat=>Value.int .u32 n)
 on:Only F w0 W
section
variable {base n:Nat} {v u:Value} {F:Nat→Prop} {w0 W W2:World} {l l2:List Nat} {bad bad2:Bool} {m:Nat} {xs:List Nat}
theorem TkSt.read (h:TkSt base n v F w0 l bad u m xs W) (hn:n≤w0.heap.size) (hr:R W2 base n v l2 bad2 F) (ho:Only F W W2):TkSt base n v F w0 l2 bad2 u m xs W2:=by
 refine ⟨hr,own_same h.own fun g hg=>ho.block g (h.own.lt g hg).2 (fun hf=>?_),h.on.trans ho⟩
 have h1:=(h.own.lt g hg).1
 have h2:=(hr.low g hf).2
 omega
theorem TkSt.below (h:TkSt base n v F w0 l bad u m xs W) (hb:Below W.heap.size W W2):TkSt base n v F w0 l bad u m xs W2 :=
 ⟨h.rd.below hb,own_keep h.own hb,h.on.trans (Only.of hb)⟩
end
theorem take_n (v:Value) (base n:Nat) (l:List Nat) (bad:Bool) (F:Nat→Prop) (k:Nat) (w:World) (hs:Small l) (hR:R w base n v l bad F) (hn:n≤w.heap.size) (hk:k≤100000) :
  Calls Tryz.prog 173 #[v,.int .i64 k] w (TakeN base n v F l bad k w):=by
 obtain ⟨ie,E⟩:=elem32
 have HS:=hid hs
 have HN:=hid hn
 have ST0:=hid (show TkSt base n v F w l bad (.slice none 0 0) 0 [] w from ⟨hR,World.ownsRow_nil _ _ _ _,Only.refl _ _⟩)
 have CU:=hid (fun (l:List Nat) (bad:Bool) (W:World) (hs:Small l) (h:R W base n v l bad F)=>u32_any v base n l bad F W hs h)
 clear hs hR hn
 go_enter Tryz.func173,Tryz.ntmps173
 go_wp2
 go_loopw [5,7] (fun v5 v7 wx=>∃ (j:Nat) (A:Option Addr) (c:Nat),j≤k∧v7=.int .i64 j∧v5=.slice A j c∧Hid (TkSt base n v F w (leftN l bad j).1 (leftN l bad j).2 (.slice A j c) j (tookN l bad j) wx)) (fun _ v7 _=>k - (intOf v7).toNat)
 case atStart=>exact ⟨0,none,0,Nat.zero_le _,rfl,rfl,ST0⟩
 case round =>
  obtain ⟨j,A,c,hj,rfl,rfl,ST⟩:=hrel
  by_cases hlt:j<k
  ·have z1:(j:Int)<(k:Int):=by omega
   have CUJ:=hid (CU.out _ _ _ (leftN_small HS.out j) ST.out.rd)
   have HV:=hid (valg_lt (l:=(leftN l bad j).1) (bad:=(leftN l bad j).2) (k:=4) (leftN_small HS.out j) (by decide))
   have HL:=hid (show leftN l bad (j+1)=(rest (leftN l bad j).1 (leftN l bad j).2 4,fails (leftN l bad j).1 (leftN l bad j).2 4) from rfl)
   have HT:=hid (show tookN l bad (j+1)=tookN l bad j ++ [val (got (leftN l bad j).1 (leftN l bad j).2 4)] from rfl)
   rw [show ((4:Nat):Int)=4 from rfl] at HV
   generalize val (got (leftN l bad j).1 (leftN l bad j).2 4)=y at CUJ HV HT
   go_wp2_with (first
    | (go_at_call 84;(refine (CUJ.out).mono ?_;rintro e w6 ⟨rfl,hR6,ho6⟩;have S6:=hid (ST.out.read HN.out hR6 ho6);have S7:=hid (S6.out.below ((Below.refl _ w6).alloc (Nat.le_refl _) (.cells #[.int .u32 y] 22)));have R7:=hid (Row.one w6 (.int .u32 (y:Nat)) 22);have L7:=hid (show w.heap.size≤(w6.alloc (.cells #[.int .u32 (y:Nat)] 22)).heap.size from S7.out.on.size);clear hR6 ho6))
    | (at_builtin;(refine wpList_append_row rfl (.tmp 9) (.tmp 12) rfl E w.heap.size _ j ((tookN l bad j).map fun n:Nat=>Value.int .u32 n) rfl S7.out.own _ 1 [.int .u32 (y:Nat)] rfl R7.out (by intro u hu;rw [List.mem_singleton.1 hu];rfl) (by unfold maxLen;omega) (by omega) L7.out (j+1) rfl ?_;intro A4 c4 w8 hown4 hg4 hat4 hb4;have S8:=hid (And.intro hown4 hb4);clear hown4 hg4 hat4 hb4)))
   go_roundw
   case rel =>
    refine ⟨j+1,A4,c4,hlt,by go_num,by first | rfl | go_num,hid ?_⟩
    rw [HL.out,HT.out]
    exact ⟨S7.out.rd.keep (fun q hq=>S8.out.2.block q (Nat.lt_of_lt_of_le hq HN.out)) S8.out.2.size,by rw [List.map_append];exact S8.out.1,⟨S8.out.2.os.trans S7.out.on.os,S8.out.2.tape.trans S7.out.on.tape,S8.out.2.output.trans S7.out.on.output,Nat.le_trans S7.out.on.size S8.out.2.size,fun q hq hf=>(S8.out.2.block q hq).trans (S7.out.on.block q hq hf)⟩⟩
   case measure=>simp [intOf];omega
  ·obtain rfl:j=k:=by omega
   have z1:decide ((j:Int)<(j:Int))=false:=by simp
   go_wp2
   go_ret
   refine ⟨A,c,rfl,U32s.of_own (by have h:=ST.out.own;rw [tookN_len];exact h) ?_,?_,ST.out.rd,ST.out.on⟩
   ·intro y hy
    have:∀ j,∀ y∈tookN l bad j,y<4294967296:=fun j=>by
     induction j with
     | zero=>intro y hy;cases hy
     | succ j ih =>
      intro y hy
      unfold tookN at hy
      rcases List.mem_append.1 hy with h | h
      ·exact ih y h
      ·rw [List.mem_singleton.1 h];exact valg_lt (k:=4) (leftN_small HS.out j) (by decide)
    exact this _ y hy
   ·intro b off m c' e hm
    injection e with e1 e2 e3
    subst e1
    exact (ST.out.own.lt b rfl).1
end Att
namespace Att
open Go.RowKit Mem Segm Oct
def nxF (l:List Nat):Nat:=(Rd.mk l false).num 1
def nxK (l:List Nat):Nat:=((Rd.mk l false).go 1).num 1
def nxW (l:List Nat):Int:=if nxF l / 16 % 2=1 then 2 else 1
def nxN (l:List Nat):Nat:=(((Rd.mk l false).go 1).go 1).num (nxW l)
def nx3 (l:List Nat):Rd:=(((Rd.mk l false).go 1).go 1).go (nxW l)
def nxV (l:List Nat):List Nat:=got (nx3 l).l (nx3 l).b (nxN l:Nat)
def nxR (l:List Nat):Rd:=(nx3 l).go (nxN l:Nat)
structure NxSt (base n:Nat) (v:Value) (F:Nat→Prop) (w0:World) (x0 x1 x2:Value) (x:Rd) (W:World):Prop where
 b2:Box3 W w0.heap.size 161 (.int .i64 0) (.int .i64 0) (.slice none 0 0)
 b3:Box3 W (w0.heap.size+1) 161 x0 x1 x2
 rd:R W base n v x.l x.b F
 on:Only F w0 W
section
variable {base n:Nat} {v x0 x1 x2:Value} {F:Nat→Prop} {w0 W W2:World} {x y:Rd}
theorem NxSt.read (h:NxSt base n v F w0 x0 x1 x2 x W) (hn:n≤w0.heap.size) (hr:R W2 base n v y.l y.b F) (ho:Only F W W2):NxSt base n v F w0 x0 x1 x2 y W2:=by
 have hF:∀ q,F q→q<n:=fun q hq=>(h.rd.low q hq).2
 exact ⟨⟨(ho.block _ h.b2.lt (fun hf=>by have:=hF _ hf;omega)).trans h.b2.blk⟩,⟨(ho.block _ h.b3.lt (fun hf=>by have:=hF _ hf;omega)).trans h.b3.blk⟩,hr,h.on.trans ho⟩
theorem NxSt.farset (h:NxSt base n v F w0 x0 x1 x2 x W) (hn:n≤w0.heap.size) (i:Nat) (u:Value):R (W.setCell ⟨w0.heap.size+1,i,none⟩ u) base n v x.l x.b F∧Only F w0 (W.setCell ⟨w0.heap.size+1,i,none⟩ u):=by
 refine ⟨h.rd.keep (fun k hk=>Go.RowKit.Below.heap_setCell _ _ _ _ (by show k≠w0.heap.size+1;omega)) (by simp),⟨h.on.os,h.on.tape,h.on.output,by have:=h.on.size;simp;omega,fun k hk hf=>(Go.RowKit.Below.heap_setCell _ _ _ _ (by show k≠w0.heap.size+1;omega)).trans (h.on.block k hk hf)⟩⟩
theorem NxSt.set0 (h:NxSt base n v F w0 x0 x1 x2 x W) (hn:n≤w0.heap.size) (u:Value):NxSt base n v F w0 u x1 x2 x (W.setCell ⟨w0.heap.size+1,0,none⟩ u) :=
 ⟨h.b2.far (by omega) u,h.b3.set0 u,(h.farset hn 0 u).1,(h.farset hn 0 u).2⟩
theorem NxSt.set1 (h:NxSt base n v F w0 x0 x1 x2 x W) (hn:n≤w0.heap.size) (u:Value):NxSt base n v F w0 x0 u x2 x (W.setCell ⟨w0.heap.size+1,1,none⟩ u) :=
 ⟨h.b2.far (by omega) u,h.b3.set1 u,(h.farset hn 1 u).1,(h.farset hn 1 u).2⟩
theorem NxSt.set2 (h:NxSt base n v F w0 x0 x1 x2 x W) (hn:n≤w0.heap.size) (u:Value):NxSt base n v F w0 x0 x1 u x (W.setCell ⟨w0.heap.size+1,2,none⟩ u) :=
 ⟨h.b2.far (by omega) u,h.b3.set2 u,(h.farset hn 2 u).1,(h.farset hn 2 u).2⟩
end
theorem nx_start {base n:Nat} {v:Value} {F:Nat→Prop} {w:World} {l:List Nat} (hR:R w base n v l false F):NxSt base n v F w (.int .i64 0) (.int .i64 0) (.slice none 0 0) ⟨l,false⟩ ((w.alloc (.cells #[.int .i64 0,.int .i64 0,.slice none 0 0] 161)).alloc (.cells #[.int .i64 0,.int .i64 0,.slice none 0 0] 161)):=by
 have h1:=Box3.new w 161 (.int .i64 0) (.int .i64 0) (.slice none 0 0)
 have b1:Below w.heap.size w (w.alloc (.cells #[.int .i64 0,.int .i64 0,.slice none 0 0] 161)):=(Below.refl _ w).alloc (Nat.le_refl _) _
 have e1:(w.alloc (.cells #[.int .i64 0,.int .i64 0,.slice none 0 0] 161)).heap.size=w.heap.size+1:=by simp
 have h2:=Box3.new (w.alloc (.cells #[.int .i64 0,.int .i64 0,.slice none 0 0] 161)) 161 (.int .i64 0) (.int .i64 0) (.slice none 0 0)
 rw [e1] at h2
 have b2:=b1.alloc b1.size (.cells #[.int .i64 0,.int .i64 0,.slice none 0 0] 161)
 exact ⟨h1.keep ((Below.refl _ _).alloc (Nat.le_refl _) _),h2,hR.below b2,Only.of b2⟩
def NextF (base n:Nat) (v:Value) (F:Nat→Prop) (l:List Nat) (w:World) (e:Ending) (w':World):Prop :=
 ∃ A c,e=.returned (.agg #[.int .i64 (nxF l:Nat),.int .i64 (nxK l:Nat),.slice A (nxV l).length c])∧U8s w' (.slice A (nxV l).length c) (nxV l)∧R w' base n v (nxR l).l (nxR l).b F∧Only F w w'
theorem next_any (v:Value) (base n:Nat) (l:List Nat) (F:Nat→Prop) (w:World) (hs:Small l) (hR:R w base n v l false F) (hn:n≤w.heap.size):Calls Tryz.prog 136 #[v] w (NextF base n v F l w):=by
 have S0:=hid (nx_start hR)
 have HN:=hid hn
 have HS1:=hid (Rd.small (x:=⟨l,false⟩) hs 1)
 have HS2:=hid (Rd.small HS1.out 1)
 have HS0:=hid hs
 have CU:=hid (fun (x:Rd) (W:World) (hs:Small x.l) (h:R W base n v x.l x.b F)=>show Calls Tryz.prog 82 #[v] W (fun e w'=>e=.returned (.int .i64 (x.num 1:Nat))∧R w' base n v (x.go 1).l (x.go 1).b F∧Only F W w') from u8_any v base n x.l x.b F W hs h)
 have CV:=hid (fun (x:Rd) (W:World) (hs:Small x.l) (h:R W base n v x.l x.b F)=>show Calls Tryz.prog 83 #[v] W (fun e w'=>e=.returned (.int .i64 (x.num 2:Nat))∧R w' base n v (x.go 2).l (x.go 2).b F∧Only F W w') from u16_any v base n x.l x.b F W hs h)
 have CT:=hid (fun (x:Rd) (k:Nat) (hk:k<65536) (W:World) (h:R W base n v x.l x.b F)=>show Calls Tryz.prog 90 #[v,.int .i64 k] W (TakeF base n v F x.l x.b k W) from take_any v base n x.l x.b F k (by simp [Lit.wf,IntKind.min,IntKind.max,IntKind.signed,IntKind.bits];omega) W h)
 have hf:nxF l<256:=num_lt (x:=⟨l,false⟩) hs 1
 have HNF:=hid (show (Rd.mk l false).num 1=nxF l from rfl)
 have HNK:=hid (show ((Rd.mk l false).go 1).num 1=nxK l from rfl)
 clear hs hR hn
 by_cases hl:nxF l / 16 % 2=1
 focus
  have n16:bits .and .i64 (nxF l:Int) 16=16:=by rw [byte16 _ hf,if_pos hl]
  have ew:nxW l=2:=by unfold nxW;rw [if_pos hl]
  have hN:nxN l<65536:=by unfold nxN;rw [ew];exact num_lt HS2.out 2
  have HV:=hid (show nxV l=got (nx3 l).l (nx3 l).b (nxN l:Nat)∧nxR l=(nx3 l).go (nxN l:Nat) from ⟨rfl,rfl⟩)
  have H3:=hid (show nx3 l=(((Rd.mk l false).go 1).go 1).go 2∧(((Rd.mk l false).go 1).go 1).num 2=nxN l from by unfold nx3 nxN;rw [ew];exact ⟨rfl,rfl⟩)
  have CTN:=hid (CT.out (nx3 l) (nxN l) hN)
  unfold NextF
  generalize nxF l=f at n16 HNF ⊢
  generalize nxK l=k at HNK ⊢
  generalize nxN l=N at CTN H3 HV
  generalize nxR l=RR at HV ⊢
  generalize nxV l=VV at HV ⊢
  generalize nx3 l=R3 at CTN H3 HV
  clear hl ew hN hf
  have CU1:=hid (CU.out ⟨l,false⟩)
  have CU2:=hid (CU.out ((Rd.mk l false).go 1))
  have CV3:=hid (CV.out (((Rd.mk l false).go 1).go 1))
  rw [HNF.out] at CU1
  rw [HNK.out] at CU2
  rw [H3.out.2,← H3.out.1] at CV3
  clear CU CV CT HNF HNK H3
  obtain ⟨c0,c1,c2⟩:=S0.out.b3.cells
  have ff:=S0.out.b3.free
  go_enter Tryz.func136,Tryz.ntmps136
  go_wp2_with (first
   | (have h:=S3.out;go_at_call 90;(refine (CTN.out _ h.rd).mono ?_;rintro e z ⟨A,c,rfl,hU,hR,ho⟩;have HU:=hid hU;have S:=hid (h.read (y:=R3.go N) HN.out hR ho);clear h hU hR ho S3 c0 c1 c2 ff;obtain ⟨c0,c1,c2⟩:=S.out.b3.cells;have HZ:=hid S.out.b3;have ff:=S.out.b3.free;have S4:=hid (S.out.set2 HN.out (.slice A (got R3.l R3.b N).length c));clear S;obtain ⟨d0,d1,d2⟩:=S4.out.b3.cells;obtain ⟨e0,e1,e2⟩:=S4.out.b2.cells;have fe:=S4.out.b2.free))
   | (have h:=S2.out;go_at_call 83;(refine (CV3.out _ HS2.out h.rd).mono ?_;rintro e z ⟨rfl,hR,ho⟩;have S3:=hid (h.read HN.out hR ho);clear h hR ho S2 c0 c1 c2 ff;obtain ⟨c0,c1,c2⟩:=S3.out.b3.cells;have ff:=S3.out.b3.free))
   | (have h:=S1.out;go_at_call 82;(refine (CU2.out _ HS1.out h.rd).mono ?_;rintro e z ⟨rfl,hR,ho⟩;have S:=hid (h.read HN.out hR ho);clear h hR ho S1 c0 c1 c2 ff;obtain ⟨c0,c1,c2⟩:=S.out.b3.cells;have ff:=S.out.b3.free;have S2:=hid (S.out.set1 HN.out (.int .i64 k));clear S))
   | (have h:=S0.out;go_at_call 82;(refine (CU1.out _ HS0.out h.rd).mono ?_;rintro e z ⟨rfl,hR,ho⟩;have S:=hid (h.read HN.out hR ho);clear h hR ho S0 c0 c1 c2 ff;obtain ⟨c0,c1,c2⟩:=S.out.b3.cells;have ff:=S.out.b3.free;have S1:=hid (S.out.set0 HN.out (.int .i64 f));clear S)))
 rotate_left
 focus
  have n16:bits .and .i64 (nxF l:Int) 16=0:=by rw [byte16 _ hf,if_neg hl]
  have ew:nxW l=1:=by unfold nxW;rw [if_neg hl]
  have hN:nxN l<65536:=by unfold nxN;rw [ew];exact Nat.lt_of_lt_of_le (num_lt HS2.out 1) (by decide)
  have HV:=hid (show nxV l=got (nx3 l).l (nx3 l).b (nxN l:Nat)∧nxR l=(nx3 l).go (nxN l:Nat) from ⟨rfl,rfl⟩)
  have H3:=hid (show nx3 l=(((Rd.mk l false).go 1).go 1).go 1∧(((Rd.mk l false).go 1).go 1).num 1=nxN l from by unfold nx3 nxN;rw [ew];exact ⟨rfl,rfl⟩)
  have CTN:=hid (CT.out (nx3 l) (nxN l) hN)
  unfold NextF
  generalize nxF l=f at n16 HNF ⊢
  generalize nxK l=k at HNK ⊢
  generalize nxN l=N at CTN H3 HV
  generalize nxR l=RR at HV ⊢
  generalize nxV l=VV at HV ⊢
  generalize nx3 l=R3 at CTN H3 HV
  clear hl ew hN hf
  have CU1:=hid (CU.out ⟨l,false⟩)
  have CU2:=hid (CU.out ((Rd.mk l false).go 1))
  have CV3:=hid (CU.out (((Rd.mk l false).go 1).go 1))
  rw [HNF.out] at CU1
  rw [HNK.out] at CU2
  rw [H3.out.2,← H3.out.1] at CV3
  clear CU CV CT HNF HNK H3
  obtain ⟨c0,c1,c2⟩:=S0.out.b3.cells
  have ff:=S0.out.b3.free
  go_enter Tryz.func136,Tryz.ntmps136
  go_wp2_with (first
   | (have h:=S3.out;go_at_call 90;(refine (CTN.out _ h.rd).mono ?_;rintro e z ⟨A,c,rfl,hU,hR,ho⟩;have HU:=hid hU;have S:=hid (h.read (y:=R3.go N) HN.out hR ho);clear h hU hR ho S3 c0 c1 c2 ff;obtain ⟨c0,c1,c2⟩:=S.out.b3.cells;have HZ:=hid S.out.b3;have ff:=S.out.b3.free;have S4:=hid (S.out.set2 HN.out (.slice A (got R3.l R3.b N).length c));clear S;obtain ⟨d0,d1,d2⟩:=S4.out.b3.cells;obtain ⟨e0,e1,e2⟩:=S4.out.b2.cells;have fe:=S4.out.b2.free))
   | (have h:=S2.out;go_at_call 82;(refine (CV3.out _ HS2.out h.rd).mono ?_;rintro e z ⟨rfl,hR,ho⟩;have S3:=hid (h.read HN.out hR ho);clear h hR ho S2 c0 c1 c2 ff;obtain ⟨c0,c1,c2⟩:=S3.out.b3.cells;have ff:=S3.out.b3.free))
   | (have h:=S1.out;go_at_call 82;(refine (CU2.out _ HS1.out h.rd).mono ?_;rintro e z ⟨rfl,hR,ho⟩;have S:=hid (h.read HN.out hR ho);clear h hR ho S1 c0 c1 c2 ff;obtain ⟨c0,c1,c2⟩:=S.out.b3.cells;have ff:=S.out.b3.free;have S2:=hid (S.out.set1 HN.out (.int .i64 k));clear S))
   | (have h:=S0.out;go_at_call 82;(refine (CU1.out _ HS0.out h.rd).mono ?_;rintro e z ⟨rfl,hR,ho⟩;have S:=hid (h.read HN.out hR ho);clear h hR ho S0 c0 c1 c2 ff;obtain ⟨c0,c1,c2⟩:=S.out.b3.cells;have ff:=S.out.b3.free;have S1:=hid (S.out.set0 HN.out (.int .i64 f));clear S)))
 all_goals
  (try simp only [Exit.inBlock,Exit.then])
  obtain ⟨r0,r1,r2⟩:=(S4.out.b2.laid (.int .i64 f) (.int .i64 k) (.slice A (got R3.l R3.b N).length c)).cells
  unfold three at r0 r1 r2
  refine bodyPost_ret (v:=.agg #[.int .i64 f,.int .i64 k,.slice A (got R3.l R3.b N).length c]) (by simp [results,Tryz.results136,go_sem,r0,r1,r2]) rfl ?_
  have U1:U8s (z.setCell ⟨w.heap.size+1,2,none⟩ (.slice A (got R3.l R3.b N).length c)) (.slice A (got R3.l R3.b N).length c) (got R3.l R3.b N):=u8_apart HU.out (HZ.out.no8 (no8_i _) (no8_i _) (no8_s _ _ _)) (fun q hq=>Go.RowKit.Below.heap_setCell _ _ _ _ hq) (by simp)
  have ho:=three_off (z.setCell ⟨w.heap.size+1,2,none⟩ (.slice A (got R3.l R3.b N).length c)) w.heap.size (.int .i64 f) (.int .i64 k) (.slice A (got R3.l R3.b N).length c)
  have U2:=u8_apart U1 (S4.out.b2.no8 (no8_i _) (no8_i _) (no8_s _ _ _)) ho.1 ho.2
  have hrd:R (three (z.setCell ⟨w.heap.size+1,2,none⟩ (.slice A (got R3.l R3.b N).length c)) w.heap.size (.int .i64 f) (.int .i64 k) (.slice A (got R3.l R3.b N).length c)) base n v (R3.go N).l (R3.go N).b F:=S4.out.rd.keep (fun q hq=>ho.1 q (by have:=HN.out;omega)) ho.2
  refine ⟨A,c,?_,?_,?_,⟨S4.out.on.os,S4.out.on.tape,S4.out.on.output,Nat.le_trans S4.out.on.size ho.2,fun q hq hf=>(ho.1 q (by omega)).trans (S4.out.on.block q hq hf)⟩⟩
  ·rw [HV.out.1]
  ·rw [HV.out.1];exact U2
  ·rw [HV.out.2];exact hrd
end Att
namespace Att
open Go.RowKit Mem Segm Oct
theorem next_some {l:List Nat} {x:Item} (h:itemOf l=some x):nxF l=x.f∧nxK l=x.k∧nxV l=x.v∧nxR l=⟨x.r,false⟩:=by
 match l,h with
 | [],h=>simp [itemOf] at h
 | [_],h=>simp [itemOf] at h
 | f :: k :: r,h =>
  unfold itemOf at h
  dsimp only at h
  have eF:nxF (f :: k :: r)=f:=(head_go f (k :: r)).2
  have eK:nxK (f :: k :: r)=k:=by unfold nxK;rw [(head_go f (k :: r)).1];exact (head_go k r).2
  have e2:(((Rd.mk (f :: k :: r) false).go 1).go 1)=⟨r,false⟩:=by rw [(head_go f (k :: r)).1];exact (head_go k r).1
  rw [eF,eK]
  by_cases hl:f / 16 % 2=1
  ·rw [if_pos hl] at h
   have eW:nxW (f :: k :: r)=2:=by unfold nxW;rw [eF,if_pos hl]
   match r,h with
   | [],h=>simp at h
   | [_],h=>simp at h
   | n1 :: n0 :: r2,h =>
    dsimp only at h
    split at h
    ·rename_i hle
     injection h with h
     subst h
     have eN:nxN (f :: k :: n1 :: n0 :: r2)=n1*256+n0:=by unfold nxN;rw [e2,eW];exact (two_go n1 n0 r2).2
     have e3:nx3 (f :: k :: n1 :: n0 :: r2)=⟨r2,false⟩:=by unfold nx3;rw [e2,eW];exact (two_go n1 n0 r2).1
     obtain ⟨g1,g2⟩:=fit_go hle
     refine ⟨rfl,rfl,?_,?_⟩
     ·unfold nxV;rw [e3,eN];exact g2
     ·unfold nxR;rw [e3,eN];exact g1
    ·cases h
  ·rw [if_neg hl] at h
   have eW:nxW (f :: k :: r)=1:=by unfold nxW;rw [eF,if_neg hl]
   match r,h with
   | [],h=>simp at h
   | n0 :: r2,h =>
    dsimp only at h
    split at h
    ·rename_i hle
     injection h with h
     subst h
     have eN:nxN (f :: k :: n0 :: r2)=n0:=by unfold nxN;rw [e2,eW];exact (head_go n0 r2).2
     have e3:nx3 (f :: k :: n0 :: r2)=⟨r2,false⟩:=by unfold nx3;rw [e2,eW];exact (head_go n0 r2).1
     obtain ⟨g1,g2⟩:=fit_go hle
     refine ⟨rfl,rfl,?_,?_⟩
     ·unfold nxV;rw [e3,eN];exact g2
     ·unfold nxR;rw [e3,eN];exact g1
    ·cases h
theorem next_none {l:List Nat} (h:itemOf l=none):(nxR l).b=true:=by
 match l,h with
 | [],_ =>
  have h1:=go_short (l:=[]) (k:=1) (by decide)
  exact go_bad (go_bad (go_bad h1.1 _) _) _
 | [f],_ =>
  have h1:(((Rd.mk [f] false).go 1).go 1).b=true:=by rw [(head_go f []).1];exact (go_short (by decide)).1
  exact go_bad (go_bad h1 _) _
 | f :: k :: r,h =>
  unfold itemOf at h
  dsimp only at h
  have eF:nxF (f :: k :: r)=f:=(head_go f (k :: r)).2
  have e2:(((Rd.mk (f :: k :: r) false).go 1).go 1)=⟨r,false⟩:=by rw [(head_go f (k :: r)).1];exact (head_go k r).1
  by_cases hl:f / 16 % 2=1
  ·rw [if_pos hl] at h
   have eW:nxW (f :: k :: r)=2:=by unfold nxW;rw [eF,if_pos hl]
   match r,h with
   | [],_ =>
    have h3:(nx3 (f :: k :: [])).b=true:=by unfold nx3;rw [e2,eW];exact (go_short (by decide)).1
    exact go_bad h3 _
   | [n1],_ =>
    have h3:(nx3 (f :: k :: [n1])).b=true:=by unfold nx3;rw [e2,eW];exact (go_short (by simp)).1
    exact go_bad h3 _
   | n1 :: n0 :: r2,h =>
    dsimp only at h
    split at h
    ·cases h
    ·rename_i hle
     have eN:nxN (f :: k :: n1 :: n0 :: r2)=n1*256+n0:=by unfold nxN;rw [e2,eW];exact (two_go n1 n0 r2).2
     have e3:nx3 (f :: k :: n1 :: n0 :: r2)=⟨r2,false⟩:=by unfold nx3;rw [e2,eW];exact (two_go n1 n0 r2).1
     unfold nxR;rw [e3,eN]
     exact (go_short (by omega)).1
  ·rw [if_neg hl] at h
   have eW:nxW (f :: k :: r)=1:=by unfold nxW;rw [eF,if_neg hl]
   match r,h with
   | [],_ =>
    have h3:(nx3 (f :: k :: [])).b=true:=by unfold nx3;rw [e2,eW];exact (go_short (by decide)).1
    exact go_bad h3 _
   | n0 :: r2,h =>
    dsimp only at h
    split at h
    ·cases h
    ·rename_i hle
     have eN:nxN (f :: k :: n0 :: r2)=n0:=by unfold nxN;rw [e2,eW];exact (head_go n0 r2).2
     have e3:nx3 (f :: k :: n0 :: r2)=⟨r2,false⟩:=by unfold nx3;rw [e2,eW];exact (head_go n0 r2).1
     unfold nxR;rw [e3,eN]
     exact (go_short (by omega)).1
theorem three_boxes (w:World) (t1 t2 t3:TypeId) (x0 x1 x2 y0 y1 y2 z0 z1 z2:Value) :
  Box3 (((w.alloc (.cells #[x0,x1,x2] t1)).alloc (.cells #[y0,y1,y2] t2)).alloc (.cells #[z0,z1,z2] t3)) w.heap.size t1 x0 x1 x2 ∧
  Box3 (((w.alloc (.cells #[x0,x1,x2] t1)).alloc (.cells #[y0,y1,y2] t2)).alloc (.cells #[z0,z1,z2] t3)) (w.heap.size+1) t2 y0 y1 y2 ∧
  Box3 (((w.alloc (.cells #[x0,x1,x2] t1)).alloc (.cells #[y0,y1,y2] t2)).alloc (.cells #[z0,z1,z2] t3)) (w.heap.size+1+1) t3 z0 z1 z2 ∧
  Below w.heap.size w (((w.alloc (.cells #[x0,x1,x2] t1)).alloc (.cells #[y0,y1,y2] t2)).alloc (.cells #[z0,z1,z2] t3)):=by
 have h1:=Box3.new w t1 x0 x1 x2
 have b1:Below w.heap.size w (w.alloc (.cells #[x0,x1,x2] t1)):=(Below.refl _ w).alloc (Nat.le_refl _) _
 have e1:(w.alloc (.cells #[x0,x1,x2] t1)).heap.size=w.heap.size+1:=by simp
 have h2:=Box3.new (w.alloc (.cells #[x0,x1,x2] t1)) t2 y0 y1 y2
 have k2:Below (w.alloc (.cells #[x0,x1,x2] t1)).heap.size (w.alloc (.cells #[x0,x1,x2] t1)) ((w.alloc (.cells #[x0,x1,x2] t1)).alloc (.cells #[y0,y1,y2] t2)):=(Below.refl _ _).alloc (Nat.le_refl _) _
 have e2:((w.alloc (.cells #[x0,x1,x2] t1)).alloc (.cells #[y0,y1,y2] t2)).heap.size=w.heap.size+1+1:=by simp
 have h3:=Box3.new ((w.alloc (.cells #[x0,x1,x2] t1)).alloc (.cells #[y0,y1,y2] t2)) t3 z0 z1 z2
 have k3:Below ((w.alloc (.cells #[x0,x1,x2] t1)).alloc (.cells #[y0,y1,y2] t2)).heap.size ((w.alloc (.cells #[x0,x1,x2] t1)).alloc (.cells #[y0,y1,y2] t2)) (((w.alloc (.cells #[x0,x1,x2] t1)).alloc (.cells #[y0,y1,y2] t2)).alloc (.cells #[z0,z1,z2] t3)):=(Below.refl _ _).alloc (Nat.le_refl _) _
 rw [e1] at h2
 rw [e2] at h3
 have b2:=b1.trans (k2.mono b1.size)
 exact ⟨(h1.keep k2).keep k3,h2.keep k3,h3,b2.trans (k3.mono b2.size)⟩
theorem notice_none (f k:Int) (A:Option Addr) (m c sub:Nat) (w:World) (hs:sub=1∨sub=11):Calls Tryz.prog 137 #[.agg #[.int .i64 f,.int .i64 k,.slice A m c],.int .i64 sub] w (Tells (.agg #[.int .i64 3,.int .i64 sub,.slice none 0 0]) w):=by
 have HL:=hid (fun s=>(three_boxes w 161 34 34 (.int .i64 f) (.int .i64 k) (.slice A m c) (.int .i64 3) (.int .i64 s) (.slice none 0 0) (.int .i64 3) (.int .i64 s) (.slice none 0 0)).2.2.2)
 rcases hs with rfl | rfl
 ·go_enter Tryz.func137,Tryz.ntmps137
  go_wp2
  (try simp only [Exit.inBlock,Exit.then])
  refine bodyPost_ret (v:=.agg #[.int .i64 3,.int .i64 1,.slice none 0 0]) (by simp [results,Tryz.results137,go_sem]) rfl ?_
  exact ⟨rfl,HL.out _⟩
 ·go_enter Tryz.func137,Tryz.ntmps137
  go_wp2
  (try simp only [Exit.inBlock,Exit.then])
  refine bodyPost_ret (v:=.agg #[.int .i64 3,.int .i64 11,.slice none 0 0]) (by simp [results,Tryz.results137,go_sem]) rfl ?_
  exact ⟨rfl,HL.out _⟩
theorem notice_data (f k:Nat) (A:Option Addr) (m:List Nat) (c sub:Nat) (w:World) (hx:U8s w (.slice A m.length c) m) (hf:f<256) (hk:k<256) (hm:m.length≤65535) (hc:255<m.length→f / 16 % 2=1) (h1:sub≠1) (h11:sub≠11) (hsub:sub<256) :
  Calls Tryz.prog 137 #[.agg #[.int .i64 f,.int .i64 k,.slice A m.length c],.int .i64 sub] w (fun e w'=>∃ v',e=.returned v'∧Note w' v' ⟨3,sub,itemB f k m⟩∧Below w.heap.size w w'):=by
 obtain ⟨q1,q2,q3,hb⟩:=three_boxes w 161 34 34 (.int .i64 f) (.int .i64 k) (.slice A m.length c) (.int .i64 0) (.int .i64 0) (.slice none 0 0) (.int .i64 3) (.int .i64 sub) (.slice none 0 0)
 have e3:(((w.alloc (.cells #[.int .i64 f,.int .i64 k,.slice A m.length c] 161)).alloc (.cells #[.int .i64 0,.int .i64 0,.slice none 0 0] 34)).alloc (.cells #[.int .i64 3,.int .i64 sub,.slice none 0 0] 34)).heap.size=w.heap.size+1+1+1:=by simp
 have hW:=wr_zero (((w.alloc (.cells #[.int .i64 f,.int .i64 k,.slice A m.length c] 161)).alloc (.cells #[.int .i64 0,.int .i64 0,.slice none 0 0] 34)).alloc (.cells #[.int .i64 3,.int .i64 sub,.slice none 0 0] 34)) (base:=w.heap.size) hb.size
 rw [e3] at hW
 have kb:Below (((w.alloc (.cells #[.int .i64 f,.int .i64 k,.slice A m.length c] 161)).alloc (.cells #[.int .i64 0,.int .i64 0,.slice none 0 0] 34)).alloc (.cells #[.int .i64 3,.int .i64 sub,.slice none 0 0] 34)).heap.size _ ((((w.alloc (.cells #[.int .i64 f,.int .i64 k,.slice A m.length c] 161)).alloc (.cells #[.int .i64 0,.int .i64 0,.slice none 0 0] 34)).alloc (.cells #[.int .i64 3,.int .i64 sub,.slice none 0 0] 34)).alloc (.cells #[.slice none 0 0] 97)):=(Below.refl _ _).alloc (Nat.le_refl _) _
 replace q1:=q1.keep kb
 replace q2:=q2.keep kb
 replace q3:=q3.keep kb
 have hb4:=hb.trans (kb.mono hb.size)
 have y1:((sub:Int) != 1)=true:=by simp;omega
 have y2:((sub:Int) != 11)=true:=by simp;omega
 have CP:=hid (put_item _ A c w.heap.size f k [] m _ _ hW (fun W' ho=>hx.keep (hb4.trans (ho.below (fun j hj=>by omega) hb4.size))) (by simp;omega) hb4.size hf hk hm hc)
 have HIL:=hid (show (itemB f k m).length≤70000 by unfold itemB;split <;> simp [big_len] <;> omega)
 rw [List.nil_append] at CP
 generalize itemB f k m=M at CP HIL ⊢
 have S0:=hid (And.intro q1 (And.intro q2 (And.intro q3 hb4)))
 have HSB:=hid (show (Lit.int .i64 (sub:Int)).wf=true by simp [Lit.wf,IntKind.min,IntKind.max,IntKind.signed,IntKind.bits];omega)
 obtain ⟨c0,c1,c2⟩:=q1.cells
 clear hx hf hk hm hc h1 h11 hsub q1 q2 q3 hb hW e3 kb hb4
 go_enter Tryz.func137,Tryz.ntmps137
 go_wp2_with (first
  | (go_at_call 145;(refine (CP.out).mono ?_;rintro e x ⟨rfl,F2,hS⟩;have W2:=hid hS;have S1:=hid (And.intro (S0.out.2.1.below (fun j hj=>hS.on.block j (by subst hj;exact S0.out.2.1.lt) (by omega))) (And.intro (S0.out.2.2.1.below (fun j hj=>hS.on.block j (by subst hj;exact S0.out.2.2.1.lt) (by omega))) (S0.out.2.2.2.trans (hS.on.below (n:=w.heap.size) (fun j hj=>by omega) S0.out.2.2.2.size))));clear hS c0 c1 c2 S0))
  | (go_at_call 63;(refine (wbytes_any _ _ _ _ _ W2.out.wr (Nat.le_trans HIL.out (by decide))).mono ?_;rintro e y ⟨Ab,cb,rfl,ho,hy⟩;have U1:=hid (U8s.of_own ho (wr_small W2.out.wr));have S2:=hid (And.intro (S1.out.1.keep hy) (And.intro ((S1.out.2.1.keep hy).set2 (.slice Ab M.length cb)) (S1.out.2.2.trans (hy.mono S1.out.2.2.size))));obtain ⟨d0,d1,d2⟩:=(S1.out.2.1.keep hy).cells;have fd:=(S1.out.2.1.keep hy).free;have T2:=hid (S1.out.2.1.keep hy);obtain ⟨g0,g1,g2⟩:=S2.out.2.1.cells;have E2:=hid ((S2.out.1.far (i:=2) (C:=w.heap.size+1+1) (by omega) (.slice Ab M.length cb)));obtain ⟨e0,e1,e2⟩:=E2.out.cells;have fe:=E2.out.free;clear ho hy S1)))
 (try simp only [Exit.inBlock,Exit.then])
 obtain ⟨r0,r1,r2⟩:=(E2.out.laid (.int .i64 3) (.int .i64 sub) (.slice Ab M.length cb)).cells
 unfold three at r0 r1 r2
 refine bodyPost_ret (v:=.agg #[.int .i64 3,.int .i64 sub,.slice Ab M.length cb]) (by simp [results,Tryz.results137,go_sem,r0,r1,r2]) rfl ?_
 have ho:=three_off (y.setCell ⟨w.heap.size+1+1,2,none⟩ (.slice Ab M.length cb)) (w.heap.size+1) (.int .i64 3) (.int .i64 sub) (.slice Ab M.length cb)
 have U2:U8s (y.setCell ⟨w.heap.size+1+1,2,none⟩ (.slice Ab M.length cb)) (.slice Ab M.length cb) M:=u8_apart U1.out (T2.out.no8 (no8_i _) (no8_i _) (no8_s _ _ _)) (fun q hq=>Go.RowKit.Below.heap_setCell _ _ _ _ hq) (by simp)
 have U3:=u8_apart U2 (E2.out.no8 (no8_i _) (no8_i _) (no8_s _ _ _)) ho.1 ho.2
 exact ⟨_,rfl,⟨show (Lit.int .i64 3).wf=true by decide,HSB.out,_,rfl,U3⟩,three_low (S2.out.2.2.setCell (p:=⟨w.heap.size+1+1,2,none⟩) (by show w.heap.size≤w.heap.size+1+1;omega) _) _ (by omega) _ _ _⟩
end Att
namespace Att
open Go.RowKit Mem Segm Oct Seg
theorem pathOf_fuel:∀ (n m:Nat) (b:List Nat),b.length≤n→b.length≤m→pathOf n b=pathOf m b
 | 0,0,_,_,_=>rfl
 | 0,m+1,b,h,_=>by
  obtain rfl:b=[]:=List.eq_nil_of_length_eq_zero (by omega)
  rfl
 | n+1,0,b,_,h=>by
  obtain rfl:b=[]:=List.eq_nil_of_length_eq_zero (by omega)
  rfl
 | n+1,m+1,b,hn,hm=>by
  match b,hn,hm with
  | [],_,_=>rfl
  | [_],_,_=>rfl
  | k :: c :: r,hn,hm =>
   simp only [List.length_cons] at hn hm
   unfold pathOf
   dsimp only
   rw [pathOf_fuel n m (r.drop (4*c)) (by rw [List.length_drop];omega) (by rw [List.length_drop];omega)]
theorem pathIs_step (k c:Nat) (r:List Nat):pathIs (k :: c :: r)=if (k=1∨k=2)∧c≠0∧4*c≤r.length then (pathIs (r.drop (4*c))).map fun l=>((k:Int),quadsN r c) :: l else none:=by
 unfold pathIs
 have h:pathOf (r.length+1+1) (k :: c :: r)=if (k=1∨k=2)∧c≠0∧4*c≤r.length then (pathOf (r.length+1) (r.drop (4*c))).map fun l=>((k:Int),quadsN r c) :: l else none:=rfl
 rw [show (k :: c :: r).length=r.length+1+1 from rfl,h,pathOf_fuel (r.length+1) (r.drop (4*c)).length (r.drop (4*c)) (by rw [List.length_drop];omega) (Nat.le_refl _)]
theorem pathIs_nil:pathIs []=some []:=rfl
theorem path_round (a:Nat) (m:List Nat):∀ c x y,c=(Rd.mk m false).num 1→x=(Rd.mk m false).go 1→y=leftN x.l x.b c →
  ((y.2=false∧(a=1∨a=2)∧c≠0→pathIs (a :: m)=(pathIs y.1).map (fun l=>((a:Int),tookN x.l x.b c) :: l)∧y.1.length<m.length)∧(¬ (y.2=false∧(a=1∨a=2)∧c≠0)→pathIs (a :: m)=none)):=by
 rintro c x y rfl rfl rfl
 match m with
 | [] =>
  have h:(leftN ((Rd.mk [] false).go 1).l ((Rd.mk [] false).go 1).b ((Rd.mk [] false).num 1)).2=true:=by
   rw [show ((Rd.mk [] false).go 1).b=true from (go_short (by decide)).1]
   exact left_bad _
  exact ⟨fun hh=>absurd (h.symm.trans hh.1) (by decide),fun _=>rfl⟩
 | c :: r =>
  obtain ⟨h1,h2⟩:=head_go c r
  rw [h1,h2]
  dsimp only
  rw [pathIs_step]
  by_cases hc:4*c≤r.length
  ·obtain ⟨h3,h4⟩:=took_good (l:=r) c hc
   rw [h3,h4]
   refine ⟨fun hh=>?_,fun hh=>?_⟩
   ·rw [if_pos ⟨hh.2.1,hh.2.2,hc⟩]
    refine ⟨rfl,?_⟩
    rw [List.length_drop,List.length_cons];omega
   ·rw [if_neg (fun q=>hh ⟨rfl,q.1,q.2.1⟩)]
  ·have h3:=took_bad (l:=r) c (by omega)
   rw [h3]
   exact ⟨fun hh=>absurd hh.1 (by decide),fun _=>by rw [if_neg (fun q=>hc q.2.2)]⟩
theorem segs_on {F:Nat→Prop} {W W':World} {t:TypeId} {n:Nat} {v:Value} {p:List Piece} (h:OwnSegsF t n n W v p) (ho:Only F W W') (hF:∀ k,F k→k<n):OwnSegsF t n n W' v p:=by
 obtain ⟨q,h1,h2,h3,h4⟩:=h
 refine ⟨q,?_,h2.map fun x l hx hu=>?_,h3,h4⟩
 ·obtain ⟨k1,k2⟩:=h1
  refine ⟨k1,?_⟩
  rcases k2 with k2 | ⟨g,cap,cur,hv,hg,hh,r⟩
  ·exact .inl k2
  ·refine .inr ⟨g,cap,cur,hv,hg,(ho.block g ?_ (fun hf=>by have:=hF g hf;omega)).trans hh,r⟩
   exact (Array.getElem?_eq_some_iff.1 hh).1
 ·obtain ⟨⟨hl,A,c,rfl,hn,hc,hr⟩,hsm⟩:=hu
  refine ⟨⟨hl,A,c,rfl,hn,hc,fun h0=>?_⟩,hsm⟩
  obtain ⟨b,off,rfl,hlt,hcell⟩:=hr h0
  have hb:=h4 _ hx b off _ c rfl h0
  have hs:=ho.block b hlt (fun hf=>by have:=hF b hf;omega)
  exact ⟨b,off,rfl,Nat.lt_of_lt_of_le hlt ho.size,fun i y hy=>by rw [← hcell i y hy];exact World.cell?_of_block hs⟩
theorem segs_push {W W2:World} {base fb L c c2:Nat} {A A2:Option Addr} {p:List Piece} {q:List Value} {k:Int} {x:Value} {l:List Nat} (hq:Nums32 W p q) (hf:FreshQ fb q) (ha:Apart (.slice A L c) q) (hx:U32s W x l)
  (hxf:∀ b off m c',x=.slice (some ⟨b,off,none⟩) m c'→0<m→fb≤b∧(Value.slice A L c).ownBlock≠some b) (hL:L=p.length)
  (hown:W2.ownsRow base 108 2 (.slice A2 (L+1) c2) (L+1) (segCells p q ++ [.int .i64 k,x]))
  (hg:(W.alloc (.cells #[.int .i64 k,x] 108)).grownBy W2 (Value.slice A L c).ownBlock)
  (hat:(Value.slice A2 (L+1) c2).ownBlock=(Value.slice A L c).ownBlock∨(Value.slice A2 (L+1) c2).ownBlock=some (W.alloc (.cells #[.int .i64 k,x] 108)).heap.size) :
  OwnSegsF 108 base fb W2 (.slice A2 (L+1) c2) (p ++ [(k,l)]):=by
 obtain ⟨k1,k2,k3⟩:=segs_grownQ (p2:=[(k,l)]) (q2:=[x]) ((Below.refl _ _).alloc (Nat.le_refl _) _) hq ha (Nums32.one hx) (Apart.one fun b off m c' e h0=>(hxf b off m c' e h0).2) hg hat (by simp) (by rw [hL];rfl) hown
 exact ⟨_,k1,k2,k3,hf.append (FreshQ.one fun b off m c' e h0=>(hxf b off m c' e h0).1)⟩
theorem own_fresh {W:World} {base n size:Nat} {e:TypeId} {v:Value} {m:Nat} {xs:List Value} (h:W.ownsRow base e size v m xs) (hn:W.heap.size≤n) {b:Nat} (hb:n≤b):v.ownBlock≠some b:=fun hv=>by
 have:=(h.lt b hv).2
 omega
theorem fresh_apart {W:World} {N:Nat} {u x:Value} {p:List Piece} (h:OwnSegsF 108 N N W u p) (hN:N≤W.heap.size) (hn:NewAt W.heap.size x):∀ b off m c',x=.slice (some ⟨b,off,none⟩) m c'→0<m→N≤b∧u.ownBlock≠some b:=fun b off m c' e h0=>by
 have hb:=hn b off m c' e h0
 obtain ⟨q,h1,-⟩:=h
 exact ⟨Nat.le_trans hN hb,own_fresh h1 (Nat.le_refl _) hb⟩
def PathF (b:List Nat) (w:World) (e:Ending) (w':World):Prop :=
 Below w.heap.size w w'∧match pathIs b with
  | some p=>∃ v,e=.returned (.tuple #[v,.bool true])∧OwnSegsF 108 w.heap.size w.heap.size w' v p
  | none=>e=.returned (.tuple #[.slice none 0 0,.bool false])
def slen:Value→Nat
 | .slice _ n _=>n
 | _=>0
structure PtSt (w0:World) (N B:Nat) (x:Rd) (u:Value) (p:List Piece) (W:World):Prop where
 rd:R W w0.heap.size N (.pointer (some ⟨B,0,none⟩)) x.l x.b (fun k=>k=B)
 own:OwnSegsF 108 N N W u p
 low:Below w0.heap.size w0 W
 n:N≤W.heap.size∧w0.heap.size≤N
section
variable {w0 W W2:World} {N B:Nat} {x y:Rd} {u:Value} {p:List Piece}
theorem PtSt.read (h:PtSt w0 N B x u p W) (hr:R W2 w0.heap.size N (.pointer (some ⟨B,0,none⟩)) y.l y.b (fun k=>k=B)) (ho:Only (fun k=>k=B) W W2):PtSt w0 N B y u p W2:=by
 have hB:=h.rd.low B rfl
 exact ⟨hr,segs_on h.own ho (fun k e=>by subst e;exact hB.2),h.low.trans (ho.below (fun k e=>by subst e;exact hB.1) h.low.size),Nat.le_trans h.n.1 ho.size,h.n.2⟩
theorem PtSt.below (h:PtSt w0 N B x u p W) (hb:Below W.heap.size W W2):PtSt w0 N B x u p W2 :=
 ⟨h.rd.below hb,h.own.keep hb,h.low.trans (hb.mono h.low.size),Nat.le_trans h.n.1 hb.size,h.n.2⟩
end
theorem path_any (v:Value) (b:List Nat) (w:World) (hv:U8s w v b) (hl:b.length≤100000):Calls Tryz.prog 172 #[v] w (PathF b w):=by
 obtain ⟨ie,E⟩:=elemSeg
 have CN:=hid (new_any v b w hv (by omega))
 have HS:=hid hv.2
 have HL:=hid hl
 clear hv hl
 go_enter Tryz.func172,Tryz.ntmps172
 go_wp2_with (go_at_call 81;refine (CN.out).mono ?_;rintro e w1 ⟨B,rfl,hR,hb⟩;have ST0:=hid (show PtSt w w1.heap.size B ⟨b,false⟩ (.slice none 0 0) [] w1 from ⟨hR,nil_segsF _ _ _,hb,Nat.le_refl _,hb.size⟩);clear hR hb)
 obtain ⟨N,hN⟩:∃ N,N=w1.heap.size:=⟨_,rfl⟩
 rw [← hN] at ST0
 clear hN
 go_loopw [4] (fun v4 wx=>∃ (m:List Nat) (p:List Piece) (A:Option Addr) (c:Nat),v4=.slice A p.length c∧Hid (Small m∧p.length+m.length≤b.length∧pathIs b=(pathIs m).map fun l=>p ++ l)∧Hid (PtSt w N B ⟨m,false⟩ (.slice A p.length c) p wx)) (fun v4 _=>b.length - slen v4)
 case atStart=>exact ⟨b,[],none,0,rfl,hid ⟨HS.out,by simp,by simp⟩,ST0⟩
 case round =>
  obtain ⟨m,p,A,c,rfl,HI,ST⟩:=hrel
  have CL:=hid (left_any _ _ _ _ _ _ wr ST.out.rd)
  dsimp only at CL
  rcases m with _ | ⟨a,m1⟩
  ·have e0:¬ ((([]:List Nat).length:Nat):Int) > 0:=by simp
   go_wp2_with (go_at_call 87;refine (CL.out).mono ?_;rintro e x ⟨rfl,hb⟩;replace ST:=hid (ST.out.below hb);clear hb)
   go_ret2
   refine ⟨ST.out.low,?_⟩
   rw [HI.out.2.2,pathIs_nil]
   show ∃ v,Ending.returned (.tuple #[.slice A p.length c,.bool true])=.returned (.tuple #[v,.bool true])∧OwnSegsF 108 w.heap.size w.heap.size x v (p ++ [])
   rw [List.append_nil]
   exact ⟨_,rfl,ST.out.own.lower ST.out.n.2 ST.out.n.2⟩
  ·have hsm:=HI.out.1
   have hs1:Small m1:=fun n hn=>hsm n (by simp [hn])
   have z1:(((a :: m1).length:Nat):Int) > 0:=by simp only [List.length_cons];omega
   have CU:=hid (fun (x:Rd) (W:World) (hs:Small x.l) (h:R W w.heap.size N (.pointer (some ⟨B,0,none⟩)) x.l x.b (fun k=>k=B))=>show Calls Tryz.prog 82 #[.pointer (some ⟨B,0,none⟩)] W (fun e w'=>e=.returned (.int .i64 (x.num 1:Nat))∧R w' w.heap.size N (.pointer (some ⟨B,0,none⟩)) (x.go 1).l (x.go 1).b (fun k=>k=B)∧Only (fun k=>k=B) W w') from u8_any _ _ _ x.l x.b _ W hs h)
   have CU1:=hid (fun W h=>CU.out ⟨a :: m1,false⟩ W hsm h)
   rw [(head_go a m1).1,(head_go a m1).2] at CU1
   have CU2:=hid (fun W h=>CU.out ⟨m1,false⟩ W hs1 h)
   have CT:=hid (fun W (hn:N≤W.heap.size) h=>take_n (.pointer (some ⟨B,0,none⟩)) w.heap.size N ((Rd.mk m1 false).go 1).l ((Rd.mk m1 false).go 1).b (fun k=>k=B) ((Rd.mk m1 false).num 1) W (Rd.small (x:=⟨m1,false⟩) hs1 1) h hn (Nat.le_trans (Nat.le_of_lt (num_lt (x:=⟨m1,false⟩) hs1 1)) (by decide)))
   have HR:=hid (path_round a m1 _ _ _ rfl rfl rfl)
   have HY:=hid (show Small (leftN ((Rd.mk m1 false).go 1).l ((Rd.mk m1 false).go 1).b ((Rd.mk m1 false).num 1)).1∧(tookN ((Rd.mk m1 false).go 1).l ((Rd.mk m1 false).go 1).b ((Rd.mk m1 false).num 1)).length=(Rd.mk m1 false).num 1 from ⟨leftN_small (Rd.small (x:=⟨m1,false⟩) hs1 1) _,tookN_len _ _ _⟩)
   unfold TakeN at CT
   generalize leftN ((Rd.mk m1 false).go 1).l ((Rd.mk m1 false).go 1).b ((Rd.mk m1 false).num 1)=y at CT HR HY
   generalize tookN ((Rd.mk m1 false).go 1).l ((Rd.mk m1 false).go 1).b ((Rd.mk m1 false).num 1)=ns at CT HR HY
   generalize (Rd.mk m1 false).num 1=k at CU2 CT HR HY
   generalize (Rd.mk m1 false).go 1=x at CU2 CT
   clear CU hsm hs1
   obtain ⟨y,bad⟩:=y
   dsimp only at CT HR HY
   have hpl:p.length+(m1.length+1)≤100000:=Nat.le_trans HI.out.2.1 HL.out
   by_cases hok:bad=false∧(a=1∨a=2)∧k≠0
   ·have HP:=hid (HR.out.1 hok)
    obtain ⟨rfl,ha,hk⟩:=hok
    have zk:((k:Int) == 0)=false:=by simp;omega
    rcases ha with rfl | rfl
    focus obtain ⟨z,hz⟩:∃ z:Int,z=1:=⟨_,rfl⟩
    rotate_left
    focus obtain ⟨z,hz⟩:∃ z:Int,z=2:=⟨_,rfl⟩
    all_goals
     go_wp2_with (first
     | (go_at_call 87;refine (CL.out).mono ?_;rintro e x1 ⟨rfl,hb⟩;have S1:=hid (ST.out.below hb);clear hb ST)
     | (have h:=S1.out;go_at_call 82;refine (CU1.out _ h.rd).mono ?_;rintro e x2 ⟨rfl,hr,ho⟩;have S2:=hid (h.read (y:=⟨m1,false⟩) hr ho);clear h hr ho S1)
     | (have h:=S2.out;go_at_call 82;refine (CU2.out _ h.rd).mono ?_;rintro e x3 ⟨rfl,hr,ho⟩;have S3:=hid (h.read (y:=x) hr ho);clear h hr ho S2)
     | (have h:=S3.out;go_at_call 173;refine (CT.out _ h.n.1 h.rd).mono ?_;rintro e x4 ⟨At,ct,rfl,hU,hn,hr,ho⟩;have HAP:=hid (fresh_apart h.own h.n.1 hn);have S4:=hid (h.read (y:=⟨y,false⟩) hr ho);have HU:=hid hU;clear h hr ho hU hn S3)
     | (have h:=S4.out;go_at_call 85;refine (bad_any _ _ _ _ _ _ _ h.rd).mono ?_;rintro e x5 ⟨rfl,hb⟩;have S5:=hid (h.below hb);replace HU:=hid (HU.out.keep hb);clear h hb S4)
     | (have h:=S5.out;obtain ⟨q,o1,o2,o3,o4⟩:=h.own;at_builtin;refine wpList_append_row rfl (.tmp 34) (.tmp 38) rfl E N _ p.length (segCells p q) rfl (o1.alloc _) _ 1 [_,.slice At k ct] rfl (row_seg_at _ _ _ _ rfl) (ones_two _ _ _ _) (by unfold maxLen;omega) (by omega) (by have:=h.n.1;simp;omega) (p.length+1) rfl ?_;intro A2 c2 w2 hown2 hg2 hat2 hb2;have S6:=hid (segs_push (l:=ns) o2 o4 o3 HU.out HAP.out rfl hown2 hg2 hat2);have HB6:=hid hb2;clear h o1 o2 o3 o4 hown2 hg2 hat2 hb2))
     go_roundw
     case rel =>
      have h:=S6.out
      refine ⟨y,p ++ [(z,ns)],A2,c2,by rw [List.length_append];rfl,hid ⟨HY.out.1,?_,?_⟩,hid ?_⟩
      ·have h1:=HP.out.2
       have h2:=HI.out.2.1
       simp only [List.length_append,List.length_cons,List.length_nil] at h2 ⊢
       omega
      ·subst hz
       rw [HI.out.2.2,HP.out.1]
       cases pathIs y <;> simp
      ·rw [List.length_append]
       have g:=S5.out.below ((Below.refl _ _).alloc (Nat.le_refl _) (.cells #[.int .i64 z,.slice At k ct] 108))
       subst hz
       exact ⟨g.rd.keep (fun j hj=>HB6.out.block j hj) HB6.out.size,h,g.low.trans (HB6.out.mono g.n.2),Nat.le_trans g.n.1 HB6.out.size,g.n.2⟩
     case measure =>
      have h2:=HI.out.2.1
      simp [slen] at h2 ⊢
      omega
   ·have HN:=hid (HR.out.2 hok)
    rcases bad with _ | _
    focus
     by_cases h1:a=1
     focus
      subst h1
      obtain rfl:k=0:=by
       rcases Nat.eq_zero_or_pos k with h | h
       ·exact h
       ·exact absurd ⟨rfl,.inl rfl,by omega⟩ hok
     rotate_left
     by_cases h2:a=2
     focus
      subst h2
      obtain rfl:k=0:=by
       rcases Nat.eq_zero_or_pos k with h | h
       ·exact h
       ·exact absurd ⟨rfl,.inr rfl,by omega⟩ hok
     rotate_left
     have d1:((a:Int) != 1)=true:=by simp;omega
     have d2:((a:Int) != 2)=true:=by simp;omega
    all_goals
     go_wp2_with (first
     | (go_at_call 87;refine (CL.out).mono ?_;rintro e x1 ⟨rfl,hb⟩;have S1:=hid (ST.out.below hb);clear hb ST)
     | (have h:=S1.out;go_at_call 82;refine (CU1.out _ h.rd).mono ?_;rintro e x2 ⟨rfl,hr,ho⟩;have S2:=hid (h.read (y:=⟨m1,false⟩) hr ho);clear h hr ho S1)
     | (have h:=S2.out;go_at_call 82;refine (CU2.out _ h.rd).mono ?_;rintro e x3 ⟨rfl,hr,ho⟩;have S3:=hid (h.read (y:=x) hr ho);clear h hr ho S2)
     | (have h:=S3.out;go_at_call 173;refine (CT.out _ h.n.1 h.rd).mono ?_;rintro e x4 ⟨At,ct,rfl,hU,hn,hr,ho⟩;have HAP:=hid (fresh_apart h.own h.n.1 hn);have S4:=hid (h.read (y:=⟨y,_⟩) hr ho);have HU:=hid hU;clear h hr ho hU hn S3)
     | (have h:=S4.out;go_at_call 85;refine (bad_any _ _ _ _ _ _ _ h.rd).mono ?_;rintro e x5 ⟨rfl,hb⟩;have S5:=hid (h.below hb);replace HU:=hid (HU.out.keep hb);clear h hb S4))
     go_ret2
     refine ⟨S5.out.low,?_⟩
     rw [HI.out.2.2,HN.out]
     rfl
end Att
namespace Att
open Go.RowKit Mem Segm Oct Seg
theorem only_new {G F:Nat→Prop} {w W W2:World} (h:Only G w W) (k:Only F W W2) (hF:∀ q,F q→w.heap.size≤q):Only G w W2 :=
 ⟨k.os.trans h.os,k.tape.trans h.tape,k.output.trans h.output,Nat.le_trans h.size k.size,fun j hj hg=>(k.block j (Nat.lt_of_lt_of_le hj h.size) (fun hf=>by have:=hF j hf;omega)).trans (h.block j hj hg)⟩
theorem R.apart {W W':World} {base n B:Nat} {v:Value} {l:List Nat} {bad:Bool} {F:Nat→Prop} (h:R W base n v l bad F) (hB:∀ i n,W.cell? ⟨B,i,none⟩≠some (.int .u8 n)) (hb:B<base) (hk:∀ k,k≠B→W'.heap[k]?=W.heap[k]?) (hs:W.heap.size≤W'.heap.size):R W' base n v l bad F:=by
 rcases h with h | ⟨b,s,h1,h2,h3,h4,h5,h6,h7,h8⟩
 ·exact .inl h
 ·exact .inr ⟨b,s,h1,h2,h3,Nat.le_trans h4 hs,(hk b (by omega)).trans h5,u8_apart h6 hB hk hs,h7,h8⟩
theorem Box9.no8 {W:World} {B:Nat} {t:TypeId} {y0 y1 y2 y3 y4 y5 y6 y7 y8:Value} (h:Box9 W B t y0 y1 y2 y3 y4 y5 y6 y7 y8) (hy:∀ u∈[y0,y1,y2,y3,y4,y5,y6,y7,y8],No8 u) (i:Nat) (n:Int):W.cell? ⟨B,i,none⟩≠some (.int .u8 n) :=
 no8_cells h.blk (fun u hu=>hy u (by simpa using hu)) i n
structure FiSt (w0:World) (B:Nat) (y0 y1 y2 y3 y4 y5 y6 y7 y8 z0 z1 z2:Value) (b N:Nat) (x:Rd) (W:World):Prop where
 b9:Box9 W B 29 y0 y1 y2 y3 y4 y5 y6 y7 y8
 n8:∀ u∈[y0,y1,y2,y3,y4,y5,y6,y7,y8],No8 u
 b3:Box3 W w0.heap.size 161 z0 z1 z2
 rd:R W (w0.heap.size+1) N (.pointer (some ⟨b,0,none⟩)) x.l x.b (fun q=>q=b)
 on:Only (fun q=>q=B) w0 W
 lt:B<w0.heap.size
section
variable {w0 W W2:World} {B b N:Nat} {y0 y1 y2 y3 y4 y5 y6 y7 y8 z0 z1 z2 u:Value} {x y:Rd}
theorem FiSt.below (h:FiSt w0 B y0 y1 y2 y3 y4 y5 y6 y7 y8 z0 z1 z2 b N x W) (hb:Below W.heap.size W W2):FiSt w0 B y0 y1 y2 y3 y4 y5 y6 y7 y8 z0 z1 z2 b N x W2 :=
 ⟨h.b9.keep hb,h.n8,h.b3.keep hb,h.rd.below hb,h.on.trans (Only.of hb),h.lt⟩
theorem FiSt.read (h:FiSt w0 B y0 y1 y2 y3 y4 y5 y6 y7 y8 z0 z1 z2 b N x W) (hr:R W2 (w0.heap.size+1) N (.pointer (some ⟨b,0,none⟩)) y.l y.b (fun q=>q=b)) (ho:Only (fun q=>q=b) W W2):FiSt w0 B y0 y1 y2 y3 y4 y5 y6 y7 y8 z0 z1 z2 b N y W2:=by
 have hb:=h.rd.low b rfl
 have hB:=h.lt
 exact ⟨⟨(ho.block B h.b9.lt (by omega)).trans h.b9.blk⟩,h.n8,⟨(ho.block w0.heap.size h.b3.lt (by omega)).trans h.b3.blk⟩,hr,only_new h.on ho (fun q e=>by subst e;omega),h.lt⟩
theorem fi_new {xf xk xv:Value} (h:Box9 w0 B 29 y0 y1 y2 y3 y4 y5 y6 y7 y8) (n8:∀ u∈[y0,y1,y2,y3,y4,y5,y6,y7,y8],No8 u)
  (hR:R W (w0.alloc (.cells #[xf,xk,xv] 161)).heap.size N (.pointer (some ⟨b,0,none⟩)) x.l x.b (fun q=>q=b)) (hb:Below (w0.alloc (.cells #[xf,xk,xv] 161)).heap.size (w0.alloc (.cells #[xf,xk,xv] 161)) W) :
  FiSt w0 B y0 y1 y2 y3 y4 y5 y6 y7 y8 xf xk xv b N x W:=by
 have e1:(w0.alloc (.cells #[xf,xk,xv] 161)).heap.size=w0.heap.size+1:=by simp
 have k1:Below w0.heap.size w0 (w0.alloc (.cells #[xf,xk,xv] 161)):=(Below.refl _ _).alloc (Nat.le_refl _) _
 rw [e1] at hR
 exact ⟨(h.keep k1).keep hb,n8,(Box3.new _ _ _ _ _).keep hb,hR,(Only.of k1).trans (Only.of hb),h.lt⟩
theorem FiSt.far (h:FiSt w0 B y0 y1 y2 y3 y4 y5 y6 y7 y8 z0 z1 z2 b N x W) (i:Nat) (u:Value):Box3 (W.setCell ⟨B,i,none⟩ u) w0.heap.size 161 z0 z1 z2∧R (W.setCell ⟨B,i,none⟩ u) (w0.heap.size+1) N (.pointer (some ⟨b,0,none⟩)) x.l x.b (fun q=>q=b)∧Only (fun q=>q=B) w0 (W.setCell ⟨B,i,none⟩ u):=by
 have hB:=h.lt
 exact ⟨h.b3.far (by omega) u,R.apart h.rd (h.b9.no8 h.n8) (by omega) (fun k hk=>Go.RowKit.Below.heap_setCell _ _ _ _ hk) (by simp),h.on.set rfl u⟩
theorem FiSt.set0 (h:FiSt w0 B y0 y1 y2 y3 y4 y5 y6 y7 y8 z0 z1 z2 b N x W) (u:Value) (hu:No8 u):FiSt w0 B u y1 y2 y3 y4 y5 y6 y7 y8 z0 z1 z2 b N x (W.setCell ⟨B,0,none⟩ u) :=
 ⟨h.b9.set0 u,fun v hv=>by have:=h.n8 v;simp only [List.mem_cons,List.not_mem_nil,or_false] at hv this;(rcases hv with rfl | rfl | rfl | rfl | rfl | rfl | rfl | rfl | rfl) <;> first | exact hu | exact this (by simp),(h.far 0 u).1,(h.far 0 u).2.1,(h.far 0 u).2.2,h.lt⟩
theorem FiSt.set1 (h:FiSt w0 B y0 y1 y2 y3 y4 y5 y6 y7 y8 z0 z1 z2 b N x W) (u:Value) (hu:No8 u):FiSt w0 B y0 u y2 y3 y4 y5 y6 y7 y8 z0 z1 z2 b N x (W.setCell ⟨B,1,none⟩ u) :=
 ⟨h.b9.set1 u,fun v hv=>by have:=h.n8 v;simp only [List.mem_cons,List.not_mem_nil,or_false] at hv this;(rcases hv with rfl | rfl | rfl | rfl | rfl | rfl | rfl | rfl | rfl) <;> first | exact hu | exact this (by simp),(h.far 1 u).1,(h.far 1 u).2.1,(h.far 1 u).2.2,h.lt⟩
theorem FiSt.set2 (h:FiSt w0 B y0 y1 y2 y3 y4 y5 y6 y7 y8 z0 z1 z2 b N x W) (u:Value) (hu:No8 u):FiSt w0 B y0 y1 u y3 y4 y5 y6 y7 y8 z0 z1 z2 b N x (W.setCell ⟨B,2,none⟩ u) :=
 ⟨h.b9.set2 u,fun v hv=>by have:=h.n8 v;simp only [List.mem_cons,List.not_mem_nil,or_false] at hv this;(rcases hv with rfl | rfl | rfl | rfl | rfl | rfl | rfl | rfl | rfl) <;> first | exact hu | exact this (by simp),(h.far 2 u).1,(h.far 2 u).2.1,(h.far 2 u).2.2,h.lt⟩
theorem FiSt.set3 (h:FiSt w0 B y0 y1 y2 y3 y4 y5 y6 y7 y8 z0 z1 z2 b N x W) (u:Value) (hu:No8 u):FiSt w0 B y0 y1 y2 u y4 y5 y6 y7 y8 z0 z1 z2 b N x (W.setCell ⟨B,3,none⟩ u) :=
 ⟨h.b9.set3 u,fun v hv=>by have:=h.n8 v;simp only [List.mem_cons,List.not_mem_nil,or_false] at hv this;(rcases hv with rfl | rfl | rfl | rfl | rfl | rfl | rfl | rfl | rfl) <;> first | exact hu | exact this (by simp),(h.far 3 u).1,(h.far 3 u).2.1,(h.far 3 u).2.2,h.lt⟩
theorem FiSt.set4 (h:FiSt w0 B y0 y1 y2 y3 y4 y5 y6 y7 y8 z0 z1 z2 b N x W) (u:Value) (hu:No8 u):FiSt w0 B y0 y1 y2 y3 u y5 y6 y7 y8 z0 z1 z2 b N x (W.setCell ⟨B,4,none⟩ u) :=
 ⟨h.b9.set4 u,fun v hv=>by have:=h.n8 v;simp only [List.mem_cons,List.not_mem_nil,or_false] at hv this;(rcases hv with rfl | rfl | rfl | rfl | rfl | rfl | rfl | rfl | rfl) <;> first | exact hu | exact this (by simp),(h.far 4 u).1,(h.far 4 u).2.1,(h.far 4 u).2.2,h.lt⟩
theorem FiSt.set5 (h:FiSt w0 B y0 y1 y2 y3 y4 y5 y6 y7 y8 z0 z1 z2 b N x W) (u:Value) (hu:No8 u):FiSt w0 B y0 y1 y2 y3 y4 u y6 y7 y8 z0 z1 z2 b N x (W.setCell ⟨B,5,none⟩ u) :=
 ⟨h.b9.set5 u,fun v hv=>by have:=h.n8 v;simp only [List.mem_cons,List.not_mem_nil,or_false] at hv this;(rcases hv with rfl | rfl | rfl | rfl | rfl | rfl | rfl | rfl | rfl) <;> first | exact hu | exact this (by simp),(h.far 5 u).1,(h.far 5 u).2.1,(h.far 5 u).2.2,h.lt⟩
theorem FiSt.set6 (h:FiSt w0 B y0 y1 y2 y3 y4 y5 y6 y7 y8 z0 z1 z2 b N x W) (u:Value) (hu:No8 u):FiSt w0 B y0 y1 y2 y3 y4 y5 u y7 y8 z0 z1 z2 b N x (W.setCell ⟨B,6,none⟩ u) :=
 ⟨h.b9.set6 u,fun v hv=>by have:=h.n8 v;simp only [List.mem_cons,List.not_mem_nil,or_false] at hv this;(rcases hv with rfl | rfl | rfl | rfl | rfl | rfl | rfl | rfl | rfl) <;> first | exact hu | exact this (by simp),(h.far 6 u).1,(h.far 6 u).2.1,(h.far 6 u).2.2,h.lt⟩
theorem FiSt.set7 (h:FiSt w0 B y0 y1 y2 y3 y4 y5 y6 y7 y8 z0 z1 z2 b N x W) (u:Value) (hu:No8 u):FiSt w0 B y0 y1 y2 y3 y4 y5 y6 u y8 z0 z1 z2 b N x (W.setCell ⟨B,7,none⟩ u) :=
 ⟨h.b9.set7 u,fun v hv=>by have:=h.n8 v;simp only [List.mem_cons,List.not_mem_nil,or_false] at hv this;(rcases hv with rfl | rfl | rfl | rfl | rfl | rfl | rfl | rfl | rfl) <;> first | exact hu | exact this (by simp),(h.far 7 u).1,(h.far 7 u).2.1,(h.far 7 u).2.2,h.lt⟩
theorem FiSt.set8 (h:FiSt w0 B y0 y1 y2 y3 y4 y5 y6 y7 y8 z0 z1 z2 b N x W) (u:Value) (hu:No8 u):FiSt w0 B y0 y1 y2 y3 y4 y5 y6 y7 u z0 z1 z2 b N x (W.setCell ⟨B,8,none⟩ u) :=
 ⟨h.b9.set8 u,fun v hv=>by have:=h.n8 v;simp only [List.mem_cons,List.not_mem_nil,or_false] at hv this;(rcases hv with rfl | rfl | rfl | rfl | rfl | rfl | rfl | rfl | rfl) <;> first | exact hu | exact this (by simp),(h.far 8 u).1,(h.far 8 u).2.1,(h.far 8 u).2.2,h.lt⟩
end
end Att
namespace Att
open Go.RowKit Mem Segm Oct Seg
structure BoxA (W:World) (B N:Nat) (a:At):Prop where
 ok:a.ok
 lt:B<N∧N≤W.heap.size
 box:∃ Ap np cp Ac nc cc,Box9 W B 29 (.int .i64 a.has) (.int .i64 a.origin) (.slice Ap np cp) (.int .u32 a.hop) (.int .u32 a.med) (.int .u32 a.pref) (.int .u32 a.aas) (.int .u32 a.aid) (.slice Ac nc cc)∧OwnSegsF 108 N N W (.slice Ap np cp) a.path∧U32s W (.slice Ac nc cc) a.comms∧NewAt N (.slice Ac nc cc)
theorem u32_on {F:Nat→Prop} {W W':World} {n:Nat} {v:Value} {l:List Nat} (h:U32s W v l) (hn:NewAt n v) (ho:Only F W W') (hF:∀ k,F k→k<n):U32s W' v l:=by
 obtain ⟨⟨hl,A,c,rfl,hm,hc,hr⟩,hsm⟩:=h
 refine ⟨⟨hl,A,c,rfl,hm,hc,fun h0=>?_⟩,hsm⟩
 obtain ⟨b,off,rfl,hlt,hcell⟩:=hr h0
 have hb:=hn b off _ c rfl h0
 have hs:=ho.block b hlt (fun hf=>by have:=hF b hf;omega)
 exact ⟨b,off,rfl,Nat.lt_of_lt_of_le hlt ho.size,fun i y hy=>by rw [← hcell i y hy];exact World.cell?_of_block hs⟩
theorem BoxA.on {F:Nat→Prop} {W W':World} {B N:Nat} {a:At} (h:BoxA W B N a) (ho:Only F W W') (hF:∀ k,F k→k<N∧k≠B):BoxA W' B N a:=by
 obtain ⟨h1,h2,Ap,np,cp,Ac,nc,cc,h3,h4,h5,h6⟩:=h
 exact ⟨h1,⟨h2.1,Nat.le_trans h2.2 ho.size⟩,Ap,np,cp,Ac,nc,cc,⟨(ho.block B h3.lt (fun hf=>(hF B hf).2 rfl)).trans h3.blk⟩,segs_on h4 ho (fun k hk=>(hF k hk).1),u32_on h5 h6 ho (fun k hk=>(hF k hk).1),h6⟩
theorem BoxA.below {W W':World} {B N:Nat} {a:At} (h:BoxA W B N a) (hb:Below W.heap.size W W'):BoxA W' B N a:=h.on (F:=fun _=>False) (Only.of hb) (fun _ hk=>hk.elim)
def fillN (k:Nat) (v:List Nat):Nat :=
 if k=1 then (if 2<val v then 6 else 0)
 else if k=2 then (match pathIs v with | some p=>if goodP (normS p) && decide (lens p≤2000) then 0 else 11 | none=>11)
 else if k=3 then (if hopB (val v) then 0 else 8)
 else 0
def fillA (a:At) (k:Nat) (v:List Nat):At :=
 ⟨a.has,if k=1 then (val v:Nat) else a.origin,if k=2 then (pathIs v).getD [] else a.path,if k=3 then val v else a.hop,if k=4 then val v else a.med,if k=5 then val v else a.pref,
  if k=7 then val (v.take 4) else a.aas,if k=7 then val (v.drop 4) else a.aid,if k=8 then quads v else a.comms⟩
def FillF (B N:Nat) (a:At) (k:Nat) (v:List Nat) (w:World) (e:Ending) (w':World):Prop :=
 e=.returned (.int .i64 (fillN k v:Nat))∧Only (fun q=>q=B) w w'∧(fillN k v=0→BoxA w' B N (fillA a k v))
theorem num_all {v:List Nat} {k:Nat} (h:v.length=k):(Rd.mk v false).num (k:Nat)=val v:=by
 have hf:=(fit_go (l:=v) (n:=k) (by omega)).2
 unfold Rd.num
 rw [hf,← h,List.take_length]
theorem n9 {h o:Int} {hp md pr ag ai np cp nc cc:Nat} {Ap Ac:Option Addr}:∀ u∈[Value.int .i64 h,.int .i64 o,.slice Ap np cp,.int .u32 hp,.int .u32 md,.int .u32 pr,.int .u32 ag,.int .u32 ai,.slice Ac nc cc],No8 u:=fun u hu=>by
 simp only [List.mem_cons,List.not_mem_nil,or_false] at hu
 rcases hu with rfl | rfl | rfl | rfl | rfl | rfl | rfl | rfl | rfl
 ·exact no8_i _
 ·exact no8_i _
 ·exact no8_s _ _ _
 ·exact no8_u _
 ·exact no8_u _
 ·exact no8_u _
 ·exact no8_u _
 ·exact no8_u _
 ·exact no8_s _ _ _
theorem val32 {v:List Nat} (hs:Small v) (h:v.length≤4):val v<4294967296:=by
 have h1:=val_lt 4 hs
 rw [List.take_of_length_le h] at h1
 exact h1
theorem fill45 (k:Nat) (ki f:Int) (A:Option Addr) (c:Nat) (v:List Nat) (w:World) (B N:Nat) (a:At) (hA:BoxA w B N a) (hv:U8s w (.slice A v.length c) v) (hl:v.length=4) (hk:k=4∧ki=4∨k=5∧ki=5) :
  Calls Tryz.prog 161 #[.agg #[.int .i64 f,.int .i64 ki,.slice A v.length c],.pointer (some ⟨B,0,none⟩)] w (FillF B N a k v w):=by
 obtain ⟨hok,hlt,Ap,np,cp,Ac,nc,cc,h9,hp,hc,hn⟩:=hA
 have hb1:Below w.heap.size w (w.alloc (.cells #[.int .i64 f,.int .i64 ki,.slice A v.length c] 161)):=(Below.refl _ _).alloc (Nat.le_refl _) _
 have CN:=hid (new_any _ v _ (hv.keep hb1) (by omega))
 have HS:=hid hv.2
 have HOK:=hid hok
 have HP:=hid hp
 have HC:=hid (And.intro hc hn)
 have H9:=hid h9
 have q3:=Box3.new w 161 (.int .i64 f) (.int .i64 ki) (.slice A v.length c)
 obtain ⟨d0,d1,d2⟩:=q3.cells
 obtain ⟨hh,ho,hpt,hh3,hh4,hh5,hh6,hh7,hh8⟩:=a
 dsimp only at hp h9 hc hok HP HC H9 HOK
 clear hv hb1 hp hc hn h9 hok q3
 have HV:=hid (val32 HS.out (by omega))
 have CU:=hid (fun (b N:Nat) (W:World) (h:R W (w.heap.size+1) N (.pointer (some ⟨b,0,none⟩)) v false (fun q=>q=b))=>show Calls Tryz.prog 84 #[.pointer (some ⟨b,0,none⟩)] W (fun e w'=>e=.returned (.int .u32 (val v:Nat))∧R w' (w.heap.size+1) N (.pointer (some ⟨b,0,none⟩)) ((Rd.mk v false).go 4).l ((Rd.mk v false).go 4).b (fun q=>q=b)∧Only (fun q=>q=b) W w') from by
  rw [← num_all hl]
  exact u32_any _ _ _ v false _ W HS.out h)
 clear hl
 rcases hk with ⟨rfl,rfl⟩ | ⟨rfl,rfl⟩
 all_goals
  go_enter Tryz.func161,Tryz.ntmps161
  go_wp2_with (first
   | (go_at_call 81;refine (CN.out).mono ?_;rintro e x ⟨b,rfl,hR,hb⟩;have S1:=hid (fi_new (x:=⟨v,false⟩) H9.out n9 hR hb);clear hR hb d0 d1 d2;obtain ⟨d0,d1,d2⟩:=S1.out.b3.cells;obtain ⟨c0,c1,c2,c3,c4,c5,c6,c7,c8⟩:=S1.out.b9.cells;have fB:=S1.out.b9.free)
   | (have h:=S1.out;go_at_call 84;refine ((hid (CU.out _ _)).out _ h.rd).mono ?_;rintro e x ⟨rfl,hR,ho⟩;have S2:=hid (h.read hR ho);clear hR ho h S1;clear d0 d1 d2 c0 c1 c2 c3 c4 c5 c6 c7 c8 fB;obtain ⟨d0,d1,d2⟩:=S2.out.b3.cells;obtain ⟨c0,c1,c2,c3,c4,c5,c6,c7,c8⟩:=S2.out.b9.cells;have fB:=S2.out.b9.free))
  go_ret
  first | (have S3:=hid (S2.out.set4 (.int .u32 (val v:Nat)) (no8_u _));exact ⟨rfl,S3.out.on,fun _=>⟨⟨HOK.out.1,HOK.out.2.1,HOK.out.2.2.1,HV.out,HOK.out.2.2.2.2⟩,⟨hlt.1,Nat.le_trans hlt.2 S3.out.on.size⟩,Ap,np,cp,Ac,nc,cc,S3.out.b9,segs_on HP.out S3.out.on (fun k e=>by subst e;exact hlt.1),u32_on HC.out.1 HC.out.2 S3.out.on (fun k e=>by subst e;exact hlt.1),HC.out.2⟩⟩) | (have S3:=hid (S2.out.set5 (.int .u32 (val v:Nat)) (no8_u _));exact ⟨rfl,S3.out.on,fun _=>⟨⟨HOK.out.1,HOK.out.2.1,HOK.out.2.2.1,HOK.out.2.2.2.1,HV.out,HOK.out.2.2.2.2.2⟩,⟨hlt.1,Nat.le_trans hlt.2 S3.out.on.size⟩,Ap,np,cp,Ac,nc,cc,S3.out.b9,segs_on HP.out S3.out.on (fun k e=>by subst e;exact hlt.1),u32_on HC.out.1 HC.out.2 S3.out.on (fun k e=>by subst e;exact hlt.1),HC.out.2⟩⟩)
theorem fill4 (f:Int) (A:Option Addr) (c:Nat) (v:List Nat) (w:World) (B N:Nat) (a:At) (hA:BoxA w B N a) (hv:U8s w (.slice A v.length c) v) (hl:v.length=4) :
  Calls Tryz.prog 161 #[.agg #[.int .i64 f,.int .i64 4,.slice A v.length c],.pointer (some ⟨B,0,none⟩)] w (FillF B N a 4 v w) :=
 fill45 4 4 f A c v w B N a hA hv hl (.inl ⟨rfl,rfl⟩)
theorem fill5 (f:Int) (A:Option Addr) (c:Nat) (v:List Nat) (w:World) (B N:Nat) (a:At) (hA:BoxA w B N a) (hv:U8s w (.slice A v.length c) v) (hl:v.length=4) :
  Calls Tryz.prog 161 #[.agg #[.int .i64 f,.int .i64 5,.slice A v.length c],.pointer (some ⟨B,0,none⟩)] w (FillF B N a 5 v w) :=
 fill45 5 5 f A c v w B N a hA hv hl (.inr ⟨rfl,rfl⟩)
theorem fill1 (f:Int) (A:Option Addr) (c:Nat) (v:List Nat) (w:World) (B N:Nat) (a:At) (hA:BoxA w B N a) (hv:U8s w (.slice A v.length c) v) (hl:v.length=1) :
  Calls Tryz.prog 161 #[.agg #[.int .i64 f,.int .i64 1,.slice A v.length c],.pointer (some ⟨B,0,none⟩)] w (FillF B N a 1 v w):=by
 obtain ⟨hok,hlt,Ap,np,cp,Ac,nc,cc,h9,hp,hc,hn⟩:=hA
 have hb1:Below w.heap.size w (w.alloc (.cells #[.int .i64 f,.int .i64 1,.slice A v.length c] 161)):=(Below.refl _ _).alloc (Nat.le_refl _) _
 have CN:=hid (new_any _ v _ (hv.keep hb1) (by omega))
 have HS:=hid hv.2
 have HOK:=hid hok
 have HP:=hid hp
 have HC:=hid (And.intro hc hn)
 have H9:=hid h9
 have q3:=Box3.new w 161 (.int .i64 f) (.int .i64 1) (.slice A v.length c)
 obtain ⟨d0,d1,d2⟩:=q3.cells
 obtain ⟨hh,ho,hpt,hh3,hh4,hh5,hh6,hh7,hh8⟩:=a
 dsimp only at hp h9 hc hok HP HC H9 HOK
 clear hv hb1 hp hc hn h9 hok q3
 have CU:=hid (fun (b N:Nat) (W:World) (h:R W (w.heap.size+1) N (.pointer (some ⟨b,0,none⟩)) v false (fun q=>q=b))=>show Calls Tryz.prog 82 #[.pointer (some ⟨b,0,none⟩)] W (fun e w'=>e=.returned (.int .i64 (val v:Nat))∧R w' (w.heap.size+1) N (.pointer (some ⟨b,0,none⟩)) ((Rd.mk v false).go 1).l ((Rd.mk v false).go 1).b (fun q=>q=b)∧Only (fun q=>q=b) W w') from by
  rw [← num_all hl]
  exact u8_any _ _ _ v false _ W HS.out h)
 have HV:=hid (show (Lit.int .i64 ((val v:Nat):Int)).wf=true by
  have:=val32 HS.out (by omega)
  simp [Lit.wf,IntKind.min,IntKind.max,IntKind.signed,IntKind.bits];omega)
 clear hl
 by_cases h2:2<val v
 focus
  have z1:((val v:Nat):Int) > 2:=by omega
  have HE:=hid (show fillN 1 v=6 by simp [fillN,h2])
 rotate_left
 focus
  have z1:decide ((2:Int)<(val v:Nat))=false:=decide_eq_false (by omega)
  have HE:=hid (show fillN 1 v=0 by simp [fillN,h2])
 all_goals
  clear h2
  unfold FillF
  rw [HE.out]
  go_enter Tryz.func161,Tryz.ntmps161
  go_wp2_with (first
   | (go_at_call 81;refine (CN.out).mono ?_;rintro e x ⟨b,rfl,hR,hb⟩;have S1:=hid (fi_new (x:=⟨v,false⟩) H9.out n9 hR hb);clear hR hb d0 d1 d2;obtain ⟨d0,d1,d2⟩:=S1.out.b3.cells;obtain ⟨c0,c1,c2,c3,c4,c5,c6,c7,c8⟩:=S1.out.b9.cells;have fB:=S1.out.b9.free)
   | (have h:=S1.out;go_at_call 82;refine ((hid (CU.out _ _)).out _ h.rd).mono ?_;rintro e x ⟨rfl,hR,ho⟩;have S2:=hid (h.read hR ho);clear hR ho h S1;clear d0 d1 d2 c0 c1 c2 c3 c4 c5 c6 c7 c8 fB;obtain ⟨d0,d1,d2⟩:=S2.out.b3.cells;obtain ⟨c0,c1,c2,c3,c4,c5,c6,c7,c8⟩:=S2.out.b9.cells;have fB:=S2.out.b9.free;have S3:=hid (S2.out.set1 (.int .i64 (val v:Nat)) (no8_i _));obtain ⟨e0,e1,e2,e3,e4,e5,e6,e7,e8⟩:=S3.out.b9.cells))
  go_ret
  refine ⟨rfl,S3.out.on,fun hz=>?_⟩
  first | exact ⟨⟨HOK.out.1,HV.out,HOK.out.2.2⟩,⟨hlt.1,Nat.le_trans hlt.2 S3.out.on.size⟩,Ap,np,cp,Ac,nc,cc,S3.out.b9,segs_on HP.out S3.out.on (fun k e=>by subst e;exact hlt.1),u32_on HC.out.1 HC.out.2 S3.out.on (fun k e=>by subst e;exact hlt.1),HC.out.2⟩ | cases hz
theorem fill3 (f:Int) (A:Option Addr) (c:Nat) (v:List Nat) (w:World) (B N:Nat) (a:At) (hA:BoxA w B N a) (hv:U8s w (.slice A v.length c) v) (hl:v.length=4) :
  Calls Tryz.prog 161 #[.agg #[.int .i64 f,.int .i64 3,.slice A v.length c],.pointer (some ⟨B,0,none⟩)] w (FillF B N a 3 v w):=by
 obtain ⟨hok,hlt,Ap,np,cp,Ac,nc,cc,h9,hp,hc,hn⟩:=hA
 have hb1:Below w.heap.size w (w.alloc (.cells #[.int .i64 f,.int .i64 3,.slice A v.length c] 161)):=(Below.refl _ _).alloc (Nat.le_refl _) _
 have CN:=hid (new_any _ v _ (hv.keep hb1) (by omega))
 have HS:=hid hv.2
 have HOK:=hid hok
 have HP:=hid hp
 have HC:=hid (And.intro hc hn)
 have H9:=hid h9
 have q3:=Box3.new w 161 (.int .i64 f) (.int .i64 3) (.slice A v.length c)
 obtain ⟨d0,d1,d2⟩:=q3.cells
 obtain ⟨hh,ho,hpt,hh3,hh4,hh5,hh6,hh7,hh8⟩:=a
 dsimp only at hp h9 hc hok HP HC H9 HOK
 clear hv hb1 hp hc hn h9 hok q3
 have HV:=hid (val32 HS.out (by omega))
 have CU:=hid (fun (b N:Nat) (W:World) (h:R W (w.heap.size+1) N (.pointer (some ⟨b,0,none⟩)) v false (fun q=>q=b))=>show Calls Tryz.prog 84 #[.pointer (some ⟨b,0,none⟩)] W (fun e w'=>e=.returned (.int .u32 (val v:Nat))∧R w' (w.heap.size+1) N (.pointer (some ⟨b,0,none⟩)) ((Rd.mk v false).go 4).l ((Rd.mk v false).go 4).b (fun q=>q=b)∧Only (fun q=>q=b) W w') from by
  rw [← num_all hl]
  exact u32_any _ _ _ v false _ W HS.out h)
 have CH:=hid (fun W=>hop_any (val v) W HV.out)
 clear hl
 rcases hh2:hopB (val v) with _ | _
 focus
  have HE:=hid (show fillN 3 v=8 by simp [fillN,hh2])
 rotate_left
 focus
  have HE:=hid (show fillN 3 v=0 by simp [fillN,hh2])
 all_goals
  rw [hh2] at CH
  clear hh2
  unfold FillF
  rw [HE.out]
  go_enter Tryz.func161,Tryz.ntmps161
  go_wp2_with (first
   | (go_at_call 81;refine (CN.out).mono ?_;rintro e x ⟨b,rfl,hR,hb⟩;have S1:=hid (fi_new (x:=⟨v,false⟩) H9.out n9 hR hb);clear hR hb d0 d1 d2;obtain ⟨d0,d1,d2⟩:=S1.out.b3.cells;obtain ⟨c0,c1,c2,c3,c4,c5,c6,c7,c8⟩:=S1.out.b9.cells;have fB:=S1.out.b9.free)
   | (have h:=S1.out;go_at_call 84;refine ((hid (CU.out _ _)).out _ h.rd).mono ?_;rintro e x ⟨rfl,hR,ho⟩;have S2:=hid (h.read hR ho);clear hR ho h S1;clear d0 d1 d2 c0 c1 c2 c3 c4 c5 c6 c7 c8 fB;obtain ⟨d0,d1,d2⟩:=S2.out.b3.cells;obtain ⟨c0,c1,c2,c3,c4,c5,c6,c7,c8⟩:=S2.out.b9.cells;have fB:=S2.out.b9.free;have S3:=hid (S2.out.set3 (.int .u32 (val v:Nat)) (no8_u _));obtain ⟨e0,e1,e2,e3,e4,e5,e6,e7,e8⟩:=S3.out.b9.cells)
   | (go_at_call 117;refine (CH.out _).mono ?_;rintro e x ⟨rfl,hb⟩;have S4:=hid (S3.out.below hb);clear hb))
  go_ret
  refine ⟨rfl,S4.out.on,fun hz=>?_⟩
  first | exact ⟨⟨HOK.out.1,HOK.out.2.1,HV.out,HOK.out.2.2.2⟩,⟨hlt.1,Nat.le_trans hlt.2 S4.out.on.size⟩,Ap,np,cp,Ac,nc,cc,S4.out.b9,segs_on HP.out S4.out.on (fun k e=>by subst e;exact hlt.1),u32_on HC.out.1 HC.out.2 S4.out.on (fun k e=>by subst e;exact hlt.1),HC.out.2⟩ | cases hz
theorem fill6 (f:Int) (A:Option Addr) (c:Nat) (v:List Nat) (w:World) (B N:Nat) (a:At) (hA:BoxA w B N a) (hv:U8s w (.slice A v.length c) v) (hl:v.length=0) :
  Calls Tryz.prog 161 #[.agg #[.int .i64 f,.int .i64 6,.slice A v.length c],.pointer (some ⟨B,0,none⟩)] w (FillF B N a 6 v w):=by
 obtain ⟨hok,hlt,Ap,np,cp,Ac,nc,cc,h9,hp,hc,hn⟩:=hA
 have hb1:Below w.heap.size w (w.alloc (.cells #[.int .i64 f,.int .i64 6,.slice A v.length c] 161)):=(Below.refl _ _).alloc (Nat.le_refl _) _
 have CN:=hid (new_any _ v _ (hv.keep hb1) (by omega))
 have HOK:=hid hok
 have HP:=hid hp
 have HC:=hid (And.intro hc hn)
 have H9:=hid h9
 have q3:=Box3.new w 161 (.int .i64 f) (.int .i64 6) (.slice A v.length c)
 obtain ⟨d0,d1,d2⟩:=q3.cells
 obtain ⟨hh,ho,hpt,hh3,hh4,hh5,hh6,hh7,hh8⟩:=a
 dsimp only at hp h9 hc hok HP HC H9 HOK
 clear hv hb1 hp hc hn h9 hok q3
 clear hl
 go_enter Tryz.func161,Tryz.ntmps161
 go_wp2_with (go_at_call 81;refine (CN.out).mono ?_;rintro e x ⟨b,rfl,hR,hb⟩;have S1:=hid (fi_new (x:=⟨v,false⟩) H9.out n9 hR hb);clear hR hb d0 d1 d2;obtain ⟨d0,d1,d2⟩:=S1.out.b3.cells;obtain ⟨c0,c1,c2,c3,c4,c5,c6,c7,c8⟩:=S1.out.b9.cells;have fB:=S1.out.b9.free)
 go_ret
 refine ⟨rfl,S1.out.on,fun _=>?_⟩
 exact ⟨HOK.out,⟨hlt.1,Nat.le_trans hlt.2 S1.out.on.size⟩,Ap,np,cp,Ac,nc,cc,S1.out.b9,segs_on HP.out S1.out.on (fun k e=>by subst e;exact hlt.1),u32_on HC.out.1 HC.out.2 S1.out.on (fun k e=>by subst e;exact hlt.1),HC.out.2⟩
theorem fill7 (f:Int) (A:Option Addr) (c:Nat) (v:List Nat) (w:World) (B N:Nat) (a:At) (hA:BoxA w B N a) (hv:U8s w (.slice A v.length c) v) (hl:v.length=8) :
  Calls Tryz.prog 161 #[.agg #[.int .i64 f,.int .i64 7,.slice A v.length c],.pointer (some ⟨B,0,none⟩)] w (FillF B N a 7 v w):=by
 obtain ⟨hok,hlt,Ap,np,cp,Ac,nc,cc,h9,hp,hc,hn⟩:=hA
 have hb1:Below w.heap.size w (w.alloc (.cells #[.int .i64 f,.int .i64 7,.slice A v.length c] 161)):=(Below.refl _ _).alloc (Nat.le_refl _) _
 have CN:=hid (new_any _ v _ (hv.keep hb1) (by omega))
 have HS:=hid hv.2
 have HOK:=hid hok
 have HP:=hid hp
 have HC:=hid (And.intro hc hn)
 have H9:=hid h9
 have q3:=Box3.new w 161 (.int .i64 f) (.int .i64 7) (.slice A v.length c)
 obtain ⟨d0,d1,d2⟩:=q3.cells
 obtain ⟨hh,ho,hpt,hh3,hh4,hh5,hh6,hh7,hh8⟩:=a
 dsimp only at hp h9 hc hok HP HC H9 HOK
 clear hv hb1 hp hc hn h9 hok q3
 have HV:=hid (val32 (HS.out.take 4) (List.length_take_le _ _))
 have HV2:=hid (val32 (HS.out.drop 4) (by rw [List.length_drop];omega))
 have CU:=hid (fun (b N:Nat) (W:World) (h:R W (w.heap.size+1) N (.pointer (some ⟨b,0,none⟩)) v false (fun q=>q=b))=>show Calls Tryz.prog 84 #[.pointer (some ⟨b,0,none⟩)] W (fun e w'=>e=.returned (.int .u32 (val (v.take 4):Nat))∧R w' (w.heap.size+1) N (.pointer (some ⟨b,0,none⟩)) (Rd.mk (v.drop 4) false).l (Rd.mk (v.drop 4) false).b (fun q=>q=b)∧Only (fun q=>q=b) W w') from by
  have h1:=u32_any _ _ _ v false _ W HS.out h
  unfold NumF at h1
  have e1:=fit_go (l:=v) (n:=4) (by omega)
  rw [show got v false 4=v.take 4 from e1.2,show rest v false 4=v.drop 4 from congrArg Rd.l e1.1,show fails v false 4=false from congrArg Rd.b e1.1] at h1
  exact h1)
 have CV:=hid (fun (b N:Nat) (W:World) (h:R W (w.heap.size+1) N (.pointer (some ⟨b,0,none⟩)) (v.drop 4) false (fun q=>q=b))=>show Calls Tryz.prog 84 #[.pointer (some ⟨b,0,none⟩)] W (fun e w'=>e=.returned (.int .u32 (val (v.drop 4):Nat))∧R w' (w.heap.size+1) N (.pointer (some ⟨b,0,none⟩)) ((Rd.mk (v.drop 4) false).go 4).l ((Rd.mk (v.drop 4) false).go 4).b (fun q=>q=b)∧Only (fun q=>q=b) W w') from by
  rw [← num_all (v:=v.drop 4) (k:=4) (by rw [List.length_drop];omega)]
  exact u32_any _ _ _ (v.drop 4) false _ W (HS.out.drop 4) h)
 clear hl
 go_enter Tryz.func161,Tryz.ntmps161
 go_wp2_with (first
  | (go_at_call 81;refine (CN.out).mono ?_;rintro e x ⟨b,rfl,hR,hb⟩;have S1:=hid (fi_new (x:=⟨v,false⟩) H9.out n9 hR hb);clear hR hb d0 d1 d2;obtain ⟨d0,d1,d2⟩:=S1.out.b3.cells;obtain ⟨c0,c1,c2,c3,c4,c5,c6,c7,c8⟩:=S1.out.b9.cells;have fB:=S1.out.b9.free)
  | (have h:=S1.out;go_at_call 84;refine ((hid (CU.out _ _)).out _ h.rd).mono ?_;rintro e x ⟨rfl,hR,ho⟩;have S2:=hid (h.read (y:=⟨v.drop 4,false⟩) hR ho);clear hR ho h S1;clear d0 d1 d2 c0 c1 c2 c3 c4 c5 c6 c7 c8 fB;obtain ⟨d0,d1,d2⟩:=S2.out.b3.cells;obtain ⟨c0,c1,c2,c3,c4,c5,c6,c7,c8⟩:=S2.out.b9.cells;have fB:=S2.out.b9.free;have S3:=hid (S2.out.set6 (.int .u32 (val (v.take 4):Nat)) (no8_u _));clear S2;obtain ⟨e0,e1,e2,e3,e4,e5,e6,e7,e8⟩:=S3.out.b9.cells;have fE:=S3.out.b9.free)
  | (have h:=S3.out;go_at_call 84;refine (CV.out _ _ _ h.rd).mono ?_;rintro e x ⟨rfl,hR,ho⟩;have S4:=hid (h.read (y:=(Rd.mk (v.drop 4) false).go 4) hR ho);clear hR ho h S3;clear d0 d1 d2 c0 c1 c2 c3 c4 c5 c6 c7 c8 fB e0 e1 e2 e3 e4 e5 e6 e7 e8 fE;obtain ⟨d0,d1,d2⟩:=S4.out.b3.cells;obtain ⟨c0,c1,c2,c3,c4,c5,c6,c7,c8⟩:=S4.out.b9.cells;have fB:=S4.out.b9.free;have S5:=hid (S4.out.set7 (.int .u32 (val (v.drop 4):Nat)) (no8_u _))))
 go_ret
 refine ⟨rfl,S5.out.on,fun _=>?_⟩
 exact ⟨⟨HOK.out.1,HOK.out.2.1,HOK.out.2.2.1,HOK.out.2.2.2.1,HOK.out.2.2.2.2.1,HV.out,HV2.out⟩,⟨hlt.1,Nat.le_trans hlt.2 S5.out.on.size⟩,Ap,np,cp,Ac,nc,cc,S5.out.b9,segs_on HP.out S5.out.on (fun k e=>by subst e;exact hlt.1),u32_on HC.out.1 HC.out.2 S5.out.on (fun k e=>by subst e;exact hlt.1),HC.out.2⟩
end Att
namespace Att
open Go.RowKit Mem Segm Oct Seg
theorem pathOf_len:∀ (n:Nat) (b:List Nat) (p:List Piece),Small b→b.length≤n→pathOf n b=some p→4*lens p+2*p.length=b.length∧FitS 255 p
 | 0,b,p,_,hn,h=>by
  obtain rfl:b=[]:=List.eq_nil_of_length_eq_zero (by omega)
  have h0:(some []:Option (List Piece))=some p:=h
  injection h0 with h0
  subst h0
  exact ⟨rfl,fun s hs=>by cases hs⟩
 | n+1,[],p,_,_,h=>by
  have h0:(some []:Option (List Piece))=some p:=h
  injection h0 with h0
  subst h0
  exact ⟨rfl,fun s hs=>by cases hs⟩
 | n+1,[_],p,_,_,h=>by
  have h0:(none:Option (List Piece))=some p:=h
  cases h0
 | n+1,k :: c :: r,p,hs,hn,h=>by
  unfold pathOf at h
  dsimp only at h
  simp only [List.length_cons] at hn ⊢
  split at h
  ·rename_i hc
   cases hq:pathOf n (r.drop (4*c)) with
   | none=>rw [hq] at h;cases h
   | some q =>
    rw [hq] at h
    have h0:(((k:Nat):Int),quadsN r c) :: q=p:=by simpa using h
    subst h0
    obtain ⟨h1,h2⟩:=pathOf_len n (r.drop (4*c)) q (fun x hx=>hs x (by simp [List.mem_of_mem_drop hx])) (by rw [List.length_drop];omega) hq
    rw [List.length_drop] at h1
    have e:lens ((((k:Nat):Int),quadsN r c) :: q)=c+lens q:=by simp [lens,quadsN_len]
    rw [e,List.length_cons]
    refine ⟨by omega,fun s hsm=>?_⟩
    rcases List.mem_cons.1 hsm with rfl | h3
    ·show (quadsN r c).length≤255
     rw [quadsN_len]
     have:=hs c (by simp)
     omega
    ·exact h2 s h3
  ·cases h
theorem pathIs_len {b:List Nat} {p:List Piece} (hs:Small b) (h:pathIs b=some p):4*lens p+2*p.length=b.length∧FitS 255 p:=pathOf_len _ b p hs (Nat.le_refl _) h
theorem bulk_is (p:List Piece):bulk p=lens p+p.length:=by
 induction p with
 | nil=>rfl
 | cons s p ih =>
  have e1:bulk (s :: p)=s.2.length+1+bulk p:=by simp [bulk]
  have e2:lens (s :: p)=s.2.length+lens p:=by simp [lens]
  rw [e1,e2,ih,List.length_cons];omega
theorem u8_only {W W':World} {v:Value} {l:List Nat} {B:Nat} (h:U8s W v l) (h9:∀ i n,W.cell? ⟨B,i,none⟩≠some (.int .u8 n)) (ho:Only (fun q=>q=B) W W'):U8s W' v l:=by
 obtain ⟨⟨hl,A,c,rfl,hm,hc,hr⟩,hsm⟩:=h
 refine ⟨⟨hl,A,c,rfl,hm,hc,fun h0=>?_⟩,hsm⟩
 obtain ⟨b,off,rfl,hlt,hcell⟩:=hr h0
 obtain ⟨x,hx⟩:∃ x,l[0]?=some x:=⟨_,List.getElem?_eq_getElem h0⟩
 have hne:b≠B:=fun e=>by
  subst e
  have h5:=hcell 0 (.int .u8 x) (by unfold cells8;rw [List.getElem?_map,hx];rfl)
  exact h9 _ _ h5
 exact ⟨b,off,rfl,Nat.lt_of_lt_of_le hlt ho.size,fun i y hy=>by rw [← hcell i y hy];exact World.cell?_of_block (ho.block b hlt hne)⟩
theorem rsize {W:World} {base n b:Nat} {l:List Nat} {bad:Bool} {F:Nat→Prop} (h:R W base n (.pointer (some ⟨b,0,none⟩)) l bad F):n≤W.heap.size:=by
 rcases h with ⟨h,_⟩ | ⟨_,_,_,_,_,h4,_⟩
 ·cases h
 ·exact h4
theorem fill8 (f:Int) (A:Option Addr) (c:Nat) (v:List Nat) (w:World) (B N:Nat) (a:At) (hA:BoxA w B N a) (hv:U8s w (.slice A v.length c) v) (hl:v.length % 4=0∧v.length≤1020) :
  Calls Tryz.prog 161 #[.agg #[.int .i64 f,.int .i64 8,.slice A v.length c],.pointer (some ⟨B,0,none⟩)] w (FillF B N a 8 v w):=by
 obtain ⟨hok,hlt,Ap,np,cp,Ac,nc,cc,h9,hp,hc,hn⟩:=hA
 have hb1:Below w.heap.size w (w.alloc (.cells #[.int .i64 f,.int .i64 8,.slice A v.length c] 161)):=(Below.refl _ _).alloc (Nat.le_refl _) _
 have CN:=hid (new_any _ v _ (hv.keep hb1) (by omega))
 have HS:=hid hv.2
 have HOK:=hid hok
 have HP:=hid hp
 have HC:=hid (And.intro hc hn)
 have H9:=hid h9
 have q3:=Box3.new w 161 (.int .i64 f) (.int .i64 8) (.slice A v.length c)
 obtain ⟨d0,d1,d2⟩:=q3.cells
 obtain ⟨hh,ho,hpt,hh3,hh4,hh5,hh6,hh7,hh8⟩:=a
 dsimp only at hp h9 hc hok HP HC H9 HOK
 clear hv hb1 hp hc hn h9 hok q3
 obtain ⟨hl4,hl⟩:=hl
 have CT:=hid (fun (b N:Nat) (W:World) (h:R W (w.heap.size+1) N (.pointer (some ⟨b,0,none⟩)) v false (fun q=>q=b))=>show Calls Tryz.prog 173 #[.pointer (some ⟨b,0,none⟩),.int .i64 (v.length / 4:Nat)] W (fun e w'=>∃ A c,e=.returned (.slice A (v.length / 4) c)∧U32s w' (.slice A (v.length / 4) c) (quads v)∧NewAt W.heap.size (.slice A (v.length / 4) c)∧R w' (w.heap.size+1) N (.pointer (some ⟨b,0,none⟩)) (Rd.mk (v.drop (4*(v.length / 4))) false).l false (fun q=>q=b)∧Only (fun q=>q=b) W w') from by
  have h1:=take_n _ _ _ v false _ (v.length / 4) W HS.out h (rsize h) (by omega)
  unfold TakeN at h1
  obtain ⟨e1,e2⟩:=took_good (l:=v) (v.length / 4) (by omega)
  rw [e1,e2] at h1
  exact h1)
 have CL:=hid (fun (b N:Nat) (W:World) (h:R W (w.heap.size+1) N (.pointer (some ⟨b,0,none⟩)) v false (fun q=>q=b))=>left_any _ _ _ v false _ W h)
 have wq:wrap64 (((v.length:Nat):Int) / 4)=((v.length / 4:Nat):Int):=by unfold wrap64;omega
 have hok2:=HOK.out
 clear hl4 hl
 go_enter Tryz.func161,Tryz.ntmps161
 go_wp2_with (first
  | (go_at_call 81;refine (CN.out).mono ?_;rintro e x ⟨b,rfl,hR,hb⟩;have S1:=hid (fi_new (x:=⟨v,false⟩) H9.out n9 hR hb);clear hR hb d0 d1 d2;obtain ⟨d0,d1,d2⟩:=S1.out.b3.cells;obtain ⟨c0,c1,c2,c3,c4,c5,c6,c7,c8⟩:=S1.out.b9.cells;have fB:=S1.out.b9.free)
  | (have h:=S1.out;go_at_call 87;refine (CL.out _ _ _ h.rd).mono ?_;rintro e x ⟨rfl,hb⟩;have S2:=hid (h.below hb);clear hb h S1;clear d0 d1 d2 c0 c1 c2 c3 c4 c5 c6 c7 c8 fB;obtain ⟨d0,d1,d2⟩:=S2.out.b3.cells;obtain ⟨c0,c1,c2,c3,c4,c5,c6,c7,c8⟩:=S2.out.b9.cells;have fB:=S2.out.b9.free)
  | (have h:=S2.out;go_at_call 173;refine (CT.out _ _ _ h.rd).mono ?_;rintro e x9 ⟨At,ct,rfl,hU,hN,hR,ho⟩;have S3:=hid (h.read (y:=⟨v.drop (4*(v.length / 4)),false⟩) hR ho);have HU:=hid (And.intro hU (hN.lower (Nat.le_trans hlt.2 h.on.size)));clear hR ho hU hN h S2;clear d0 d1 d2 c0 c1 c2 c3 c4 c5 c6 c7 c8 fB;obtain ⟨d0,d1,d2⟩:=S3.out.b3.cells;obtain ⟨c0,c1,c2,c3,c4,c5,c6,c7,c8⟩:=S3.out.b9.cells;have fB:=S3.out.b9.free;have S4:=hid (S3.out.set8 (.slice At (v.length / 4) ct) (no8_s _ _ _))))
 go_ret
 refine ⟨rfl,S4.out.on,fun _=>?_⟩
 exact ⟨HOK.out,⟨hlt.1,Nat.le_trans hlt.2 S4.out.on.size⟩,Ap,np,cp,At,_,ct,S4.out.b9,segs_on HP.out S4.out.on (fun k e=>by subst e;exact hlt.1),u32_off HU.out.1 HU.out.2 (off_set _ hlt.1) (by simp),HU.out.2⟩
theorem fill2 (f : Int) (A : Option Addr) (c : Nat) (v : List Nat) (w : World) (B N : Nat) (a : At) (hA : BoxA w B N a) (hv : U8s w (.slice A v.length c) v) (hl : v.length ≤ 65535) :
    Calls Tryz.prog 161 #[.agg #[.int .i64 f,.int .i64 2,.slice A v.length c],.pointer (some ⟨B,0,none⟩)] w (FillF B N a 2 v w):=by
  obtain ⟨hok,hlt,Ap,np,cp,Ac,nc,cc,h9,hp,hc,hn⟩:=hA
  have hb1:Below w.heap.size w (w.alloc (.cells #[.int .i64 f,.int .i64 2,.slice A v.length c] 161)):=(Below.refl _ _).alloc (Nat.le_refl _) _
  have CN:=hid (new_any _ v _ (hv.keep hb1) (by omega))
  have HS:=hid hv.2
  have HOK:=hid hok
  have HP:=hid hp
  have HC:=hid (And.intro hc hn)
  have H9:=hid h9
  have q3:=Box3.new w 161 (.int .i64 f) (.int .i64 2) (.slice A v.length c)
  obtain ⟨d0,d1,d2⟩:=q3.cells
  obtain ⟨hh,ho,hpt,hh3,hh4,hh5,hh6,hh7,hh8⟩:=a
  dsimp only at hp h9 hc hok HP HC H9 HOK
  have HUV:=hid hv
  clear hv hb1 hp hc hn h9 hok q3
  have HV:=hid (fun (W:World) (h:Only (fun q=>q=B) w W) (h9:∀ i n,w.cell? ⟨B,i,none⟩≠some (.int .u8 n))=>u8_only HUV.out h9 h)
  have CP:=hid (fun (W:World) (h:U8s W (.slice A v.length c) v)=>path_any _ v W h (by omega))
  cases hp2:pathIs v with
  | none =>
    have HE:=hid (show fillN 2 v=11 by simp [fillN,hp2])
    unfold PathF at CP
    rw [hp2] at CP
    clear hp2 hl
    unfold FillF
    rw [HE.out]
    go_enter Tryz.func161,Tryz.ntmps161
    go_wp2_with (first
      | (go_at_call 81;refine (CN.out).mono ?_;rintro e x ⟨b,rfl,hR,hb⟩;have S1:=hid (fi_new (x:=⟨v,false⟩) H9.out n9 hR hb);clear hR hb d0 d1 d2;obtain ⟨d0,d1,d2⟩:=S1.out.b3.cells;obtain ⟨c0,c1,c2,c3,c4,c5,c6,c7,c8⟩:=S1.out.b9.cells;have fB:=S1.out.b9.free)
      | (have h:=S1.out;go_at_call 172;refine (CP.out _ (HV.out _ h.on (H9.out.no8 n9))).mono ?_;intro e x hF;have HF:=hid (And.intro (h.below hF.1) hF.2);clear hF h;have S2:=hid HF.out.1;obtain rfl:=HF.out.2;clear HF;clear S1;clear d0 d1 d2 c0 c1 c2 c3 c4 c5 c6 c7 c8 fB;obtain ⟨d0,d1,d2⟩:=S2.out.b3.cells;obtain ⟨c0,c1,c2,c3,c4,c5,c6,c7,c8⟩:=S2.out.b9.cells;have fB:=S2.out.b9.free))
    go_ret
    refine ⟨rfl,S2.out.on,fun hz=>?_⟩
    cases hz
  | some p =>
    obtain ⟨hpl,hpf⟩:=pathIs_len HS.out hp2
    unfold PathF at CP
    rw [hp2] at CP
    have CN2:=hid (fun (v':Value) (W:World) (h:Segs W v' p)=>numbers_any v' p W h (by omega))
    have CM:=hid (fun (v':Value) (W:World) (h:Segs W v' p)=>pnorm_any v' p W h (by rw [bulk_is];omega) (fun s hs=>Nat.le_trans (hpf s hs) (by decide)))
    have CG:=hid (fun (v':Value) (W:World) (h:Segs W v' (normS p))=>pgood_any v' (normS p) W h)
    have HEQ:=hid (show fillN 2 v=if goodP (normS p) && decide (lens p≤2000) then 0 else 11 by simp [fillN,hp2])
    have HPV:=hid (show (pathIs v).getD []=p by rw [hp2];rfl)
    unfold FillF
    rw [HEQ.out]
    clear hp2 hl hpl hpf
    by_cases hln:2000<lens p
    focus
      have z1:((lens p:Nat):Int) > 2000:=by omega
      rw [decide_eq_false (show ¬ lens p≤2000 by omega),Bool.and_false,if_neg (by decide)]
      clear hln HEQ
    rotate_left
    focus
      have z1:decide ((2000:Int)<(lens p:Nat))=false:=decide_eq_false (by omega)
      rw [decide_eq_true (show lens p≤2000 by omega),Bool.and_true]
      clear hln HEQ
      rcases hg:goodP (normS p) with _ | _
      focus
        rw [hg] at CG
        rw [if_neg (by decide)]
        clear hg
      rotate_left
      rw [hg] at CG
      rw [if_pos (by decide)]
      clear hg
    all_goals
      go_enter Tryz.func161,Tryz.ntmps161
      go_wp2_with (first
        | (go_at_call 81;refine (CN.out).mono ?_;rintro e x ⟨b,rfl,hR,hb⟩;have S1:=hid (fi_new (x:=⟨v,false⟩) H9.out n9 hR hb);clear hR hb d0 d1 d2;obtain ⟨d0,d1,d2⟩:=S1.out.b3.cells;obtain ⟨c0,c1,c2,c3,c4,c5,c6,c7,c8⟩:=S1.out.b9.cells;have fB:=S1.out.b9.free)
        | (have h:=S1.out;go_at_call 172;refine (CP.out _ (HV.out _ h.on (H9.out.no8 n9))).mono ?_;intro e x hF;have HF:=hid (And.intro (h.below hF.1) hF.2);clear hF h;obtain ⟨vq,rfl,hq⟩:=HF.out.2;obtain ⟨aq,cq,rfl⟩:=hq.form;have HQ:=hid (hq.lower (Nat.le_trans hlt.2 S1.out.on.size) (Nat.le_trans hlt.2 S1.out.on.size));have S2:=hid HF.out.1;clear HF hq;clear S1;clear d0 d1 d2 c0 c1 c2 c3 c4 c5 c6 c7 c8 fB;obtain ⟨d0,d1,d2⟩:=S2.out.b3.cells;obtain ⟨c0,c1,c2,c3,c4,c5,c6,c7,c8⟩:=S2.out.b9.cells;have fB:=S2.out.b9.free)
        | (go_at_call 115;refine (CN2.out _ _ HQ.out.segs).mono ?_;rintro e x ⟨rfl,hb⟩;have S3:=hid (S2.out.below hb);replace HQ:=hid (HQ.out.keep hb);clear hb S2;clear d0 d1 d2 c0 c1 c2 c3 c4 c5 c6 c7 c8 fB;obtain ⟨d0,d1,d2⟩:=S3.out.b3.cells;obtain ⟨c0,c1,c2,c3,c4,c5,c6,c7,c8⟩:=S3.out.b9.cells;have fB:=S3.out.b9.free)
        | (go_at_call 162;refine (CM.out _ _ HQ.out.segs).mono ?_;rintro e x ⟨vn,rfl,hn,hb⟩;have HN:=hid hn.segs;have S4:=hid (S3.out.below hb);replace HQ:=hid (HQ.out.keep hb);clear hb hn S3;clear d0 d1 d2 c0 c1 c2 c3 c4 c5 c6 c7 c8 fB;obtain ⟨d0,d1,d2⟩:=S4.out.b3.cells;obtain ⟨c0,c1,c2,c3,c4,c5,c6,c7,c8⟩:=S4.out.b9.cells;have fB:=S4.out.b9.free)
        | (go_at_call 114;refine (CG.out _ _ HN.out).mono ?_;rintro e x ⟨rfl,hb⟩;have S5:=hid (S4.out.below hb);replace HQ:=hid (HQ.out.keep hb);clear hb S4;clear d0 d1 d2 c0 c1 c2 c3 c4 c5 c6 c7 c8 fB;obtain ⟨d0,d1,d2⟩:=S5.out.b3.cells;obtain ⟨c0,c1,c2,c3,c4,c5,c6,c7,c8⟩:=S5.out.b9.cells;have fB:=S5.out.b9.free;have fE:=S5.out.b9.free;have S6:=hid (S5.out.set2 (.slice aq p.length cq) (no8_s _ _ _))))
      go_ret
      first
        | (refine ⟨rfl, S6.out.on, fun _ => ?_⟩
           have HQ2:=segs_off HQ.out (off_set (B:=B) (i:=2) (.slice aq p.length cq) hlt.1) (by simp)
           refine ⟨HOK.out,⟨hlt.1,Nat.le_trans hlt.2 S6.out.on.size⟩,aq,_,cq,Ac,nc,cc,S6.out.b9,?_,u32_on HC.out.1 HC.out.2 S6.out.on (fun k e=>by subst e;exact hlt.1),HC.out.2⟩
           show OwnSegsF 108 N N _ _ ((pathIs v).getD [])
           rw [HPV.out]
           exact HQ2)
        | (refine ⟨rfl,S5.out.on,fun hz=>?_⟩;cases hz)
        | (refine ⟨rfl,S3.out.on,fun hz=>?_⟩;cases hz)
end Att
namespace Att
open Go.RowKit Mem Segm Oct Seg
theorem fill_any (f k:Nat) (A:Option Addr) (c:Nat) (v:List Nat) (w:World) (B N:Nat) (a:At) (hA:BoxA w B N a) (hv:U8s w (.slice A v.length c) v) (h1:1≤k) (h8:k≤8) (hl:longB k v.length=true) (hm:v.length≤65535) :
  Calls Tryz.prog 161 #[.agg #[.int .i64 f,.int .i64 k,.slice A v.length c],.pointer (some ⟨B,0,none⟩)] w (FillF B N a k v w):=by
 have hk:k=1∨k=2∨k=3∨k=4∨k=5∨k=6∨k=7∨k=8:=by omega
 rcases hk with rfl | rfl | rfl | rfl | rfl | rfl | rfl | rfl
 ·exact fill1 f A c v w B N a hA hv (by simpa [longB] using hl)
 ·exact fill2 f A c v w B N a hA hv hm
 ·exact fill3 f A c v w B N a hA hv (by simpa [longB] using hl)
 ·exact fill4 f A c v w B N a hA hv (by simpa [longB] using hl)
 ·exact fill5 f A c v w B N a hA hv (by simpa [longB] using hl)
 ·exact fill6 f A c v w B N a hA hv (by simpa [longB] using hl)
 ·exact fill7 f A c v w B N a hA hv (by simpa [longB] using hl)
 ·exact fill8 f A c v w B N a hA hv (by simpa [longB] using hl)
theorem or_pow {h:Int} {k:Nat} (h0:0≤h) (h5:h<512) (hk:k≤8) (hb:h / 2 ^ k % 2=0):bits .or .i64 h (2 ^ k)=h+2 ^ k:=by
 obtain ⟨x,rfl⟩:=Int.eq_ofNat_of_zero_le h0
 have h2:2 ^ k≤256:=Nat.le_trans (Nat.pow_le_pow_right (by omega) hk) (by decide)
 have e2:(BitVec.ofInt 64 (2 ^ k)).toNat=2 ^ k:=by
  rw [ofInt_nat]
  have h1:(2:Int) ^ k=((2 ^ k:Nat):Int):=by simp
  rw [h1]
  generalize 2 ^ k=y at h2
  omega
 have e1:(BitVec.ofInt 64 (x:Int)).toNat=x:=by rw [ofInt_nat];omega
 have hb2:x / 2 ^ k % 2=0:=by
  have hk2:k=0∨k=1∨k=2∨k=3∨k=4∨k=5∨k=6∨k=7∨k=8:=by omega
  rcases hk2 with rfl | rfl | rfl | rfl | rfl | rfl | rfl | rfl | rfl <;> simp only [Nat.reducePow,Int.reducePow] at hb ⊢ <;> omega
 show IntKind.i64.wrap ((BitVec.ofInt 64 (x:Int) ||| BitVec.ofInt 64 (2 ^ k)).toNat:Nat)=_
 rw [BitVec.toNat_or,e1,e2]
 have e3:x ||| 2 ^ k=x+2 ^ k:=by
  apply Nat.eq_of_testBit_eq
  intro i
  rw [Nat.testBit_or,Nat.testBit_two_pow]
  have h9:∀ y:Nat,y<512→∀ k:Nat,k<9→y / 2 ^ k % 2=0→y ||| 2 ^ k=y+2 ^ k:=by decide +kernel
  rw [← h9 x (by omega) k (by omega) hb2,Nat.testBit_or,Nat.testBit_two_pow]
 rw [e3,wrap_low (by omega)]
 simp
theorem sub_known {f k:Nat} {v:List Nat} (hk:¬ (k<1∨8<k)):subOf f k v=if ownF f k≠flagN k then 4 else if longB k v.length=false then 5 else fillN k v:=by
 unfold subOf fillN
 rw [if_neg hk]
 cases pathIs v <;> rfl
def putHas (a:At) (h:Int):At:=⟨h,a.origin,a.path,a.hop,a.med,a.pref,a.aas,a.aid,a.comms⟩
theorem lay_known {a:At} {k:Nat} {v:List Nat} (hk:¬ (k<1∨8<k)):layA a k v=fillA (putHas a (a.has+2 ^ k)) k v:=by
 unfold layA
 rw [if_neg hk];rfl
theorem BoxA.sethas {W:World} {B N:Nat} {a:At} (h:BoxA W B N a) (x:Int) (hx:(Lit.int .i64 x).wf=true):BoxA (W.setCell ⟨B,0,none⟩ (.int .i64 x)) B N (putHas a x):=by
 obtain ⟨h1,h2,Ap,np,cp,Ac,nc,cc,h3,h4,h5,h6⟩:=h
 exact ⟨⟨hx,h1.2⟩,⟨h2.1,by simpa using h2.2⟩,Ap,np,cp,Ac,nc,cc,h3.set0 _,segs_off h4 (off_set _ h2.1) (by simp),u32_off h5 h6 (off_set _ h2.1) (by simp),h6⟩
def ReadF (B N:Nat) (a:At) (f k:Nat) (v:List Nat) (w:World) (e:Ending) (w':World):Prop :=
 e=.returned (.int .i64 (subOf f k v:Nat))∧Only (fun q=>q=B) w w'∧(subOf f k v=0→BoxA w' B N (layA a k v))
theorem read_any (f k:Nat) (A:Option Addr) (c:Nat) (v:List Nat) (w:World) (B N:Nat) (a:At) (hA:BoxA w B N a) (hv:U8s w (.slice A v.length c) v) (hS:Shp w) (hf:f<256) (hm:v.length≤65535) (h0:0≤a.has) (h5:a.has<512) (hb:a.has / 2 ^ k % 2=0) :
  Calls Tryz.prog 138 #[.agg #[.int .i64 f,.int .i64 k,.slice A v.length c],.pointer (some ⟨B,0,none⟩)] w (ReadF B N a f k v w):=by
 have q3:=Box3.new w 161 (.int .i64 f) (.int .i64 k) (.slice A v.length c)
 have hb1:Below w.heap.size w (w.alloc (.cells #[.int .i64 f,.int .i64 k,.slice A v.length c] 161)):=(Below.refl _ _).alloc (Nat.le_refl _) _
 have Q0:=hid (And.intro q3 hb1)
 have HA:=hid hA
 have HU:=hid hv
 have HS:=hid hS
 obtain ⟨d0,d1,d2⟩:=q3.cells
 clear q3 hb1
 unfold ReadF
 by_cases hk:k<1∨8<k
 ·have CK:=hid (fun (W:World)=>show Calls Tryz.prog 158 #[.int .i64 k] W (Tells (.bool false) W) from by
   have h:=known_any (k:Int) W
   rw [show (decide ((1:Int)≤(k:Int)) && decide ((k:Int)≤8))=false by
    rcases hk with h | h
    ·rw [decide_eq_false (by omega)];rfl
    ·rw [decide_eq_false (show ¬ (k:Int)≤8 by omega)];simp] at h
   exact h)
  have HL:=hid (show layA a k v=a by unfold layA;rw [if_pos hk])
  have n128:=byte128 f hf
  by_cases hf2:f<128
  ·rw [if_pos hf2] at n128
   have HE:=hid (show subOf f k v=2 by unfold subOf;rw [if_pos hk,if_pos hf2])
   rw [HE.out]
   clear hk hf2 hf hA hv hS
   go_enter Tryz.func138,Tryz.ntmps138
   go_wp2_with (go_at_call 158;refine (CK.out _).mono ?_;rintro e x ⟨rfl,hx⟩;have Q1:=hid (And.intro (Q0.out.1.keep hx) (Q0.out.2.trans (hx.mono Q0.out.2.size)));clear hx d0 d1 d2;obtain ⟨d0,d1,d2⟩:=Q1.out.1.cells)
   go_ret
   exact ⟨rfl,Only.of Q1.out.2,fun hz=>by cases hz⟩
  ·rw [if_neg hf2] at n128
   have HE:=hid (show subOf f k v=0 by unfold subOf;rw [if_pos hk,if_neg hf2])
   rw [HE.out,HL.out]
   clear hk hf2 hf hA hv hS
   go_enter Tryz.func138,Tryz.ntmps138
   go_wp2_with (go_at_call 158;refine (CK.out _).mono ?_;rintro e x ⟨rfl,hx⟩;have Q1:=hid (And.intro (Q0.out.1.keep hx) (Q0.out.2.trans (hx.mono Q0.out.2.size)));clear hx d0 d1 d2;obtain ⟨d0,d1,d2⟩:=Q1.out.1.cells)
   go_ret
   exact ⟨rfl,Only.of Q1.out.2,fun hz=>HA.out.below Q1.out.2⟩
 ·have CK:=hid (fun (W:World)=>show Calls Tryz.prog 158 #[.int .i64 k] W (Tells (.bool true) W) from by
   have h:=known_any (k:Int) W
   rw [decide_eq_true (show (1:Int)≤(k:Int) by omega),decide_eq_true (show (k:Int)≤8 by omega)] at h
   exact h)
  have CF:=hid (fun (W:World) (h:Below w.heap.size w W)=>flagged_any f k (.slice A v.length c) W (HS.out.keep h) hf (by omega) (by omega))
  have CT:=hid (fun (W:World) (h:Below w.heap.size w W)=>fits_any k v.length W (HS.out.keep h) (by omega) (by omega) (by omega))
  have CI:=hid (fun (W:World) (a:At) (h:BoxA W B N a) (hu:U8s W (.slice A v.length c) v) (hl:longB k v.length=true)=>fill_any f k A c v W B N a h hu (by omega) (by omega) hl hm)
  rw [sub_known hk]
  by_cases hfl:ownF f k=flagN k
  ·rw [if_neg (fun h=>h hfl)]
   rw [decide_eq_true hfl] at CF
   cases hlg:longB k v.length with
   | false =>
    rw [hlg] at CT
    rw [if_pos rfl]
    clear hk hf hA hv hS hlg hfl
    go_enter Tryz.func138,Tryz.ntmps138
    go_wp2_with (first
     | (go_at_call 158;refine (CK.out _).mono ?_;rintro e x ⟨rfl,hx⟩;have Q1:=hid (And.intro (Q0.out.1.keep hx) (Q0.out.2.trans (hx.mono Q0.out.2.size)));clear hx d0 d1 d2 Q0;obtain ⟨d0,d1,d2⟩:=Q1.out.1.cells)
     | (go_at_call 159;refine (CF.out _ Q1.out.2).mono ?_;rintro e x ⟨rfl,hx⟩;have Q2:=hid (And.intro (Q1.out.1.keep hx) (Q1.out.2.trans (hx.mono Q1.out.2.size)));clear hx d0 d1 d2 Q1;obtain ⟨d0,d1,d2⟩:=Q2.out.1.cells)
     | (go_at_call 160;refine (CT.out _ Q2.out.2).mono ?_;rintro e x3 ⟨rfl,hx⟩;have Q3:=hid (And.intro (Q2.out.1.keep hx) (Q2.out.2.trans (hx.mono Q2.out.2.size)));clear hx d0 d1 d2 Q2;obtain ⟨d0,d1,d2⟩:=Q3.out.1.cells))
    go_ret
    exact ⟨rfl,Only.of Q3.out.2,fun hz=>by cases hz⟩
   | true =>
    rw [hlg] at CT
    rw [if_neg (by decide)]
    have HW:=hid (show (Lit.int .i64 (a.has+2 ^ k)).wf=true by
     have h2:2 ^ k≤256:=Nat.le_trans (Nat.pow_le_pow_right (by omega) (show k≤8 by omega)) (by decide)
     have h1:(2:Int) ^ k=((2 ^ k:Nat):Int):=by simp
     rw [h1]
     generalize 2 ^ k=y at h2
     simp [Lit.wf,IntKind.min,IntKind.max,IntKind.signed,IntKind.bits];omega)
    have HO:=hid (show bits .or .i64 a.has (wrap64 (2 ^ min k 64))=a.has+2 ^ k by
     rw [Nat.min_eq_left (show k≤64 by omega)]
     have e:wrap64 ((2:Int) ^ k)=2 ^ k:=by
      have h1:(2:Int) ^ k=((2 ^ k:Nat):Int):=by simp
      have h2:2 ^ k≤256:=Nat.le_trans (Nat.pow_le_pow_right (by omega) (show k≤8 by omega)) (by decide)
      rw [h1]
      generalize 2 ^ k=y at h2
      unfold wrap64;omega
     rw [e]
     exact or_pow h0 h5 (by omega) hb)
    have z0:(0:Int)≤(k:Int):=by omega
    have HLA:=hid (show layA a k v=fillA (putHas a (a.has+2 ^ k)) k v from lay_known hk)
    rw [HLA.out]
    have HLG:=hid hlg
    have hB:=hA.lt
    clear hk hf hA hv hS hlg hfl h0 h5 hb
    go_enter Tryz.func138,Tryz.ntmps138
    go_wp2_with (first
     | (go_at_call 158;refine (CK.out _).mono ?_;rintro e x ⟨rfl,hx⟩;have Q1:=hid (And.intro (Q0.out.1.keep hx) (Q0.out.2.trans (hx.mono Q0.out.2.size)));clear hx d0 d1 d2 Q0;obtain ⟨d0,d1,d2⟩:=Q1.out.1.cells)
     | (go_at_call 159;refine (CF.out _ Q1.out.2).mono ?_;rintro e x ⟨rfl,hx⟩;have Q2:=hid (And.intro (Q1.out.1.keep hx) (Q1.out.2.trans (hx.mono Q1.out.2.size)));clear hx d0 d1 d2 Q1;obtain ⟨d0,d1,d2⟩:=Q2.out.1.cells)
     | (go_at_call 160;refine (CT.out _ Q2.out.2).mono ?_;rintro e x3 ⟨rfl,hx⟩;have Q3:=hid (And.intro (Q2.out.1.keep hx) (Q2.out.2.trans (hx.mono Q2.out.2.size)));clear hx d0 d1 d2 Q2;obtain ⟨d0,d1,d2⟩:=Q3.out.1.cells))
    have QD:=hid (And.intro (Q3.out.1.keep (Below.refl _ _).drew) (Q3.out.2.trans ((Below.refl _ x3).drew.mono Q3.out.2.size)))
    have A3:=hid (HA.out.below QD.out.2)
    clear d0 d1 d2
    obtain ⟨d0,d1,d2⟩:=QD.out.1.cells
    obtain ⟨-,-,Ap,np,cp,Ac,nc,cc,b9,-,-,-⟩:=A3.out
    obtain ⟨-,-,Ap0,np0,cp0,Ac0,nc0,cc0,b90,-,-,-⟩:=HA.out
    have HA9:=hid b90
    clear b90
    obtain ⟨c0,-⟩:=b9.cells
    have fB:=b9.free
    clear b9
    go_region
    rw [HO.out]
    clear d0 d1 d2 c0 fB
    have A4:=hid (((HA.out.below Q3.out.2).sethas (a.has+2 ^ k) HW.out).below (Below.refl _ _).drew)
    have D4:=hid ((Q3.out.1.far (i:=0) (show w.heap.size≠B by omega) (.int .i64 (a.has+2 ^ k))).keep (Below.refl _ _).drew)
    have O4:=hid (((Only.of (F:=fun q=>q=B) Q3.out.2).set (i:=0) rfl (.int .i64 (a.has+2 ^ k))).drew)
    obtain ⟨W4,hW4⟩:∃ W4,W4=(x3.setCell ⟨B,0,none⟩ (.int .i64 (a.has+2 ^ k))).drew:=⟨_,rfl⟩
    rw [← hW4] at A4 D4 O4 ⊢
    clear hW4
    have CIW:=hid (CI.out W4 _ A4.out (u8_only HU.out (HA9.out.no8 n9) O4.out) HLG.out)
    obtain ⟨d0,d1,d2⟩:=D4.out.cells
    go_wp2_with (go_at_call 161;(refine (CIW.out).mono ?_;rintro e x ⟨rfl,ho5,hg5⟩;have R5:=hid (And.intro (O4.out.trans ho5) hg5);clear ho5 hg5))
    go_ret
    exact ⟨rfl,R5.out.1,R5.out.2⟩
  ·rw [if_pos hfl]
   rw [decide_eq_false hfl] at CF
   clear hk hf hA hv hS hfl
   go_enter Tryz.func138,Tryz.ntmps138
   go_wp2_with (first
    | (go_at_call 158;refine (CK.out _).mono ?_;rintro e x ⟨rfl,hx⟩;have Q1:=hid (And.intro (Q0.out.1.keep hx) (Q0.out.2.trans (hx.mono Q0.out.2.size)));clear hx d0 d1 d2 Q0;obtain ⟨d0,d1,d2⟩:=Q1.out.1.cells)
    | (go_at_call 159;refine (CF.out _ Q1.out.2).mono ?_;rintro e x ⟨rfl,hx⟩;have Q2:=hid (And.intro (Q1.out.1.keep hx) (Q1.out.2.trans (hx.mono Q1.out.2.size)));clear hx d0 d1 d2 Q1;obtain ⟨d0,d1,d2⟩:=Q2.out.1.cells))
   go_ret
   exact ⟨rfl,Only.of Q2.out.2,fun hz=>by cases hz⟩
end Att
namespace Att
open Segm Rise Oct
theorem item_facts {l:List Nat} {x:Item} (hs:Small l) (h:itemOf l=some x):x.f<256∧x.k<256∧x.v.length≤65535∧(255<x.v.length→x.f / 16 % 2=1)∧Small x.v∧Small x.r∧x.r.length+3≤l.length∧x.r.length+x.v.length≤l.length:=by
 match l,hs,h with
 | [],_,h=>simp [itemOf] at h
 | [_],_,h=>simp [itemOf] at h
 | f :: k :: r,hs,h =>
  have hf:=hs f (by simp)
  have hk:=hs k (by simp)
  have hr:Small r:=fun n hn=>hs n (by simp [hn])
  unfold itemOf at h
  dsimp only at h
  by_cases hl:f / 16 % 2=1
  ·rw [if_pos hl] at h
   match r,hr,h with
   | [],_,h=>simp at h
   | [_],_,h=>simp at h
   | n1 :: n0 :: r2,hr,h =>
    have h1:=hr n1 (by simp)
    have h0:=hr n0 (by simp)
    have h2:Small r2:=fun n hn=>hr n (by simp [hn])
    dsimp only at h
    split at h
    ·injection h with h
     subst h
     dsimp only
     refine ⟨hf,hk,?_,fun _=>hl,h2.take _,h2.drop _,?_,?_⟩ <;> simp only [List.length_take,List.length_drop,List.length_cons] <;> omega
    ·cases h
  ·rw [if_neg hl] at h
   match r,hr,h with
   | [],_,h=>simp at h
   | n0 :: r2,hr,h =>
    have h0:=hr n0 (by simp)
    have h2:Small r2:=fun n hn=>hr n (by simp [hn])
    dsimp only at h
    split at h
    ·injection h with h
     subst h
     dsimp only
     refine ⟨hf,hk,?_,fun hh=>?_,h2.take _,h2.drop _,?_,?_⟩
     ·simp only [List.length_take];omega
     ·simp only [List.length_take] at hh;omega
     ·simp only [List.length_drop,List.length_cons];omega
     ·simp only [List.length_take,List.length_drop,List.length_cons];omega
    ·cases h
theorem decA_fuel:∀ (n m:Nat) (seen:List Nat) (a:At) (l:List Nat),Small l→l.length≤n→l.length≤m→decA n seen a l=decA m seen a l
 | 0,0,_,_,_,_,_,_=>rfl
 | 0,m+1,seen,a,l,_,h,_=>by
  obtain rfl:l=[]:=List.eq_nil_of_length_eq_zero (by omega)
  rfl
 | n+1,0,seen,a,l,_,_,h=>by
  obtain rfl:l=[]:=List.eq_nil_of_length_eq_zero (by omega)
  rfl
 | n+1,m+1,seen,a,l,hs,hn,hm=>by
  unfold decA
  cases hi:itemOf l with
  | none=>rfl
  | some x =>
   dsimp only
   obtain ⟨-,-,-,-,-,h6,h7,-⟩:=item_facts hs hi
   rw [decA_fuel n m (x.k :: seen) (layA a x.k x.v) x.r h6 (by omega) (by omega)]
def decF (seen:List Nat) (a:At) (l:List Nat):No ⊕ At:=decA l.length seen a l
theorem decF_nil (seen:List Nat) (a:At):decF seen a []=.inr (normA a):=rfl
theorem decF_none {seen:List Nat} {a:At} {l:List Nat} (hne:l≠[]) (h:itemOf l=none):decF seen a l=.inl ⟨3,1,[]⟩:=by
 unfold decF
 obtain ⟨n,hn⟩:∃ n,l.length=n+1:=⟨l.length - 1,by have:=List.length_pos_iff.2 hne;omega⟩
 rw [hn]
 unfold decA
 rw [if_neg hne,h]
theorem decF_some {seen:List Nat} {a:At} {l:List Nat} {x:Item} (hs:Small l) (h:itemOf l=some x) :
  decF seen a l=if x.k∈seen then .inl ⟨3,1,[]⟩ else if subOf x.f x.k x.v=0 then decF (x.k :: seen) (layA a x.k x.v) x.r else .inl (badN (subOf x.f x.k x.v) x):=by
 have hne:l≠[]:=fun e=>by subst e;cases h
 obtain ⟨-,-,-,-,-,h6,h7,-⟩:=item_facts hs h
 obtain ⟨n,hn⟩:∃ n,l.length=n+1:=⟨l.length - 1,by omega⟩
 have e:=decA_fuel n x.r.length (x.k :: seen) (layA a x.k x.v) x.r h6 (by omega) (Nat.le_refl _)
 have hh:decA (n+1) seen a l=if l=[] then .inr (normA a) else match itemOf l with
  | none=>.inl ⟨3,1,[]⟩
  | some x=>if x.k∈seen then .inl ⟨3,1,[]⟩ else if subOf x.f x.k x.v=0 then decA n (x.k :: seen) (layA a x.k x.v) x.r else .inl (badN (subOf x.f x.k x.v) x):=rfl
 show decA l.length seen a l=_
 rw [hn,hh,if_neg hne,h]
 dsimp only
 rw [e]
 rfl
structure Fine (seen:List Nat) (a:At):Prop where
 h0:0≤a.has
 h5:a.has<512
 free:∀ k:Nat,k≤8→k ∉ seen→a.has / 2 ^ k % 2=0
 zero:a.has % 2=0
 bk:bulk a.path≤40000
 fit:FitS 4999 a.path
 cm:a.comms.length<5000
theorem fine_zero:Fine [] zeroA:=⟨by decide,by decide,fun k _ _=>by simp [zeroA],by decide,by decide,(fun s hs=>by cases hs),by decide⟩
theorem div_add_pow {h:Int} {j k:Nat} (hj:j≤8) (hk:k≤8) (hb:h / 2 ^ k % 2=0) (hne:j≠k):(h+2 ^ k) / 2 ^ j % 2=h / 2 ^ j % 2:=by
 have hj2:j=0∨j=1∨j=2∨j=3∨j=4∨j=5∨j=6∨j=7∨j=8:=by omega
 have hk2:k=0∨k=1∨k=2∨k=3∨k=4∨k=5∨k=6∨k=7∨k=8:=by omega
 rcases hk2 with rfl | rfl | rfl | rfl | rfl | rfl | rfl | rfl | rfl <;> rcases hj2 with rfl | rfl | rfl | rfl | rfl | rfl | rfl | rfl | rfl <;> simp only [Int.reducePow] at hb ⊢ <;> first | omega | exact absurd rfl hne
theorem add_pow_lt {h:Int} {k:Nat} (h0:0≤h) (h5:h<512) (hk:k≤8) (hb:h / 2 ^ k % 2=0):h+2 ^ k<512:=by
 have hk2:k=0∨k=1∨k=2∨k=3∨k=4∨k=5∨k=6∨k=7∨k=8:=by omega
 rcases hk2 with rfl | rfl | rfl | rfl | rfl | rfl | rfl | rfl | rfl <;> simp only [Int.reducePow] at hb ⊢ <;> omega
theorem Fine.lay {seen:List Nat} {a:At} (h:Fine seen a) {f k:Nat} {v:List Nat} (hs:Small v) (hl:v.length≤65535) (hk:k ∉ seen) (hsub:subOf f k v=0):Fine (k :: seen) (layA a k v):=by
 by_cases hu:k<1∨8<k
 ·rw [show layA a k v=a by unfold layA;rw [if_pos hu]]
  exact ⟨h.h0,h.h5,fun j hj hn=>h.free j hj (fun hm=>hn (by simp [hm])),h.zero,h.bk,h.fit,h.cm⟩
 ·have hb:=h.free k (by omega) hk
  have hp:(0:Int)<2 ^ k:=by
   have h1:(2:Int) ^ k=((2 ^ k:Nat):Int):=by simp
   have:=Nat.two_pow_pos k
   omega
  have e:(layA a k v).has=a.has+2 ^ k:=by unfold layA;rw [if_neg hu]
  have ep:(layA a k v).path=if k=2 then (pathIs v).getD [] else a.path:=by unfold layA;rw [if_neg hu]
  have ec:(layA a k v).comms=if k=8 then quads v else a.comms:=by unfold layA;rw [if_neg hu]
  have hq:∀ p,pathIs v=some p→bulk p≤40000∧FitS 4999 p:=fun p hp=>by
   obtain ⟨h1,h2⟩:=pathIs_len hs hp
   exact ⟨by rw [bulk_is];omega,fun s hs=>Nat.le_trans (h2 s hs) (by decide)⟩
  have hq2:bulk ((pathIs v).getD [])≤40000∧FitS 4999 ((pathIs v).getD []):=by
   cases hh:pathIs v with
   | none=>exact ⟨Nat.zero_le _,fun s hs=>by cases hs⟩
   | some p=>exact hq p hh
  refine ⟨by rw [e];have:=h.h0;omega,by rw [e];exact add_pow_lt h.h0 h.h5 (by omega) hb,fun j hj hn=>?_,?_,?_,?_,?_⟩
  ·rw [e]
   have hne:j≠k:=fun e2=>hn (by simp [e2])
   rw [div_add_pow hj (by omega) hb hne]
   exact h.free j hj (fun hm=>hn (by simp [hm]))
  ·rw [e]
   have h1:=div_add_pow (j:=0) (by omega) (show k≤8 by omega) hb (by omega)
   simp only [Int.pow_zero,Int.ediv_one] at h1
   rw [h1]
   exact h.zero
  ·rw [ep];split;exact hq2.1;exact h.bk
  ·rw [ep];split;exact hq2.2;exact h.fit
  ·rw [ec]
   split
   ·rename_i h8
    subst h8
    unfold subOf at hsub
    rw [if_neg hu] at hsub
    split at hsub
    ·cases hsub
    ·split at hsub
     ·cases hsub
     ·rename_i h9
      have h9':longB 8 v.length=true:=by simpa using h9
      have h10:v.length % 4=0∧v.length≤1020:=by simpa [longB] using h9'
      unfold quads
      rw [quadsN_len]
      omega
   ·exact h.cm
end Att
namespace Att
open Go.RowKit Mem Segm Oct Seg
def seenA (l:List Nat):Array Value:=((List.range 256).map fun i=>Value.bool (decide (i∈l))).toArray
theorem seenA_at (l:List Nat) {k:Nat} (hk:k<256):(seenA l)[k]?=some (.bool (decide (k∈l))):=by
 unfold seenA
 simp [hk]
theorem seenA_set (l:List Nat) {k:Nat} (hk:k<256):(seenA l).setIfInBounds k (.bool true)=seenA (k :: l):=by
 apply Array.ext_getElem?
 intro i
 rw [Array.getElem?_setIfInBounds]
 by_cases hi:i<256
 ·rw [seenA_at (k :: l) hi]
  by_cases h:k=i
  ·subst h
   have:k<(seenA l).size:=by simp [seenA];exact hk
   simp [this]
  ·rw [if_neg h,seenA_at l hi]
   have e:(i∈k :: l) ↔ i∈l:=by
    rw [List.mem_cons]
    exact ⟨fun q=>q.elim (fun q=>absurd q.symm h) id,Or.inr⟩
   rw [decide_eq_decide.2 e]
 ·have h1:(seenA l)[i]?=none:=by simp [seenA];omega
  have h2:(seenA (k :: l))[i]?=none:=by simp [seenA];omega
  rw [if_neg (by omega),h1,h2]
theorem seen_zero:Tryz.zeroCells159=seenA []:=by kernel_rfl
theorem rd_only {W W':World} {base n B:Nat} {v:Value} {l:List Nat} {bad:Bool} {F:Nat→Prop} (h:R W base n v l bad F) (hB:∀ i n,W.cell? ⟨B,i,none⟩≠some (.int .u8 n)) (hb:B<base) (ho:Only (fun q=>q=B) W W'):R W' base n v l bad F:=by
 rcases h with h | ⟨b,s,h1,h2,h3,h4,h5,h6,h7,h8⟩
 ·exact .inl h
 ·exact .inr ⟨b,s,h1,h2,h3,Nat.le_trans h4 ho.size,(ho.block b (by omega) (by omega)).trans h5,u8_only h6 hB ho,h7,h8⟩
def cellLen (W:World) (b:Nat):Nat:=match W.cell? ⟨b,0,none⟩ with
 | some (.slice _ n _)=>n
 | _=>0
theorem cellLen_is {W:World} {base n b:Nat} {l:List Nat} {bad:Bool} {F:Nat→Prop} (h:R W base n (.pointer (some ⟨b,0,none⟩)) l bad F):cellLen W b=l.length:=by
 rcases h with ⟨h,_⟩ | ⟨b',s,h1,_,_,_,h5,h6,_⟩
 ·cases h
 ·injection h1 with h1
  injection h1 with h1
  injection h1 with h1
  subst h1
  obtain ⟨A,c,rfl,_,_⟩:=h6.form
  unfold cellLen
  rw [(cell0 h5).1]
structure DcSt (w0:World) (b N:Nat) (seen:List Nat) (a:At) (x:Rd) (W:World):Prop where
 r9:Box9 W w0.heap.size 29 (.int .i64 0) (.int .i64 0) (.slice none 0 0) (.int .u32 0) (.int .u32 0) (.int .u32 0) (.int .u32 0) (.int .u32 0) (.slice none 0 0)
 n3:Box3 W (w0.heap.size+1) 34 (.int .i64 0) (.int .i64 0) (.slice none 0 0)
 box:BoxA W (w0.heap.size+2) N a
 sn:W.heap[w0.heap.size+3]?=some (.cells (seenA seen) 159)
 rd:R W (w0.heap.size+4) N (.pointer (some ⟨b,0,none⟩)) x.l x.b (fun q=>q=b)
 low:Below w0.heap.size w0 W
section
variable {w0 W W2:World} {b N:Nat} {seen:List Nat} {a a2:At} {x y:Rd}
theorem DcSt.lts (h:DcSt w0 b N seen a x W):w0.heap.size<W.heap.size∧w0.heap.size+1<W.heap.size∧w0.heap.size+3<W.heap.size∧w0.heap.size+4≤b∧b<N∧N≤W.heap.size :=
 ⟨h.r9.lt,h.n3.lt,(Array.getElem?_eq_some_iff.1 h.sn).1,(h.rd.low b rfl).1,(h.rd.low b rfl).2,h.box.lt.2⟩
theorem DcSt.below (h:DcSt w0 b N seen a x W) (hb:Below W.heap.size W W2):DcSt w0 b N seen a x W2 :=
 ⟨h.r9.keep hb,h.n3.keep hb,h.box.below hb,(hb.block _ h.lts.2.2.1).trans h.sn,h.rd.below hb,h.low.trans (hb.mono h.low.size)⟩
theorem DcSt.read (h:DcSt w0 b N seen a x W) (hr:R W2 (w0.heap.size+4) N (.pointer (some ⟨b,0,none⟩)) y.l y.b (fun q=>q=b)) (ho:Only (fun q=>q=b) W W2):DcSt w0 b N seen a y W2:=by
 obtain ⟨h1,h2,h3,h4,h5,h6⟩:=h.lts
 exact ⟨⟨(ho.block _ h1 (by omega)).trans h.r9.blk⟩,⟨(ho.block _ h2 (by omega)).trans h.n3.blk⟩,h.box.on ho (fun k e=>by subst e;omega),(ho.block _ h3 (by omega)).trans h.sn,hr,h.low.trans (ho.below (fun k e=>by subst e;omega) h.low.size)⟩
theorem DcSt.fill (h:DcSt w0 b N seen a x W) (ho:Only (fun q=>q=w0.heap.size+2) W W2) (hA:BoxA W2 (w0.heap.size+2) N a2):DcSt w0 b N seen a2 x W2:=by
 obtain ⟨h1,h2,h3,h4,h5,h6⟩:=h.lts
 obtain ⟨-,-,Ap,np,cp,Ac,nc,cc,b9,-,-,-⟩:=h.box
 exact ⟨⟨(ho.block _ h1 (by omega)).trans h.r9.blk⟩,⟨(ho.block _ h2 (by omega)).trans h.n3.blk⟩,hA,(ho.block _ h3 (by omega)).trans h.sn,rd_only h.rd (b9.no8 n9) (by omega) ho,h.low.trans (ho.below (fun k e=>by subst e;omega) h.low.size)⟩
theorem DcSt.lost (h:DcSt w0 b N seen a x W) (ho:Only (fun q=>q=w0.heap.size+2) W W2):Box9 W2 w0.heap.size 29 (.int .i64 0) (.int .i64 0) (.slice none 0 0) (.int .u32 0) (.int .u32 0) (.int .u32 0) (.int .u32 0) (.int .u32 0) (.slice none 0 0)∧Box3 W2 (w0.heap.size+1) 34 (.int .i64 0) (.int .i64 0) (.slice none 0 0)∧Below w0.heap.size w0 W2:=by
 obtain ⟨h1,h2,h3,h4,h5,h6⟩:=h.lts
 exact ⟨⟨(ho.block _ h1 (by omega)).trans h.r9.blk⟩,⟨(ho.block _ h2 (by omega)).trans h.n3.blk⟩,h.low.trans (ho.below (fun k e=>by subst e;omega) h.low.size)⟩
theorem seen_no8 (h:W.heap[w0.heap.size+3]?=some (.cells (seenA seen) 159)) (i:Nat) (n:Int):W.cell? ⟨w0.heap.size+3,i,none⟩≠some (.int .u8 n) :=
 no8_cells h (fun u hu=>by
  unfold seenA at hu
  simp only [List.mem_toArray,List.mem_map] at hu
  obtain ⟨j,_,rfl⟩:=hu
  exact no8_b _) i n
theorem DcSt.mark (h:DcSt w0 b N seen a x W) {k:Nat} (hk:k<256):DcSt w0 b N (k :: seen) a x (W.setCell ⟨w0.heap.size+3,k,none⟩ (.bool true)):=by
 obtain ⟨h1,h2,h3,h4,h5,h6⟩:=h.lts
 have ho:Only (fun q=>q=w0.heap.size+3) W (W.setCell ⟨w0.heap.size+3,k,none⟩ (.bool true)):=Only.set (F:=fun q=>q=w0.heap.size+3) (b:=w0.heap.size+3) (i:=k) (Only.refl _ _) rfl _
 have hN:=h.box.lt.1
 refine ⟨⟨(ho.block _ h1 (by omega)).trans h.r9.blk⟩,⟨(ho.block _ h2 (by omega)).trans h.n3.blk⟩,h.box.on ho (fun k e=>by subst e;omega),?_,rd_only h.rd (seen_no8 h.sn) (by omega) ho,h.low.trans (ho.below (fun k e=>by subst e;omega) h.low.size)⟩
 rw [Go.Joins.block_setCell h.sn,seenA_set seen hk]
theorem DcSt.seen_cell (h:DcSt w0 b N seen a x W) {k:Nat} (hk:k<256):W.cell? ⟨w0.heap.size+3,k,none⟩=some (.bool (decide (k∈seen)))∧W.frozen? ⟨w0.heap.size+3,k,none⟩=false:=by
 refine ⟨?_,Go.Joins.unfrozen_of_block h.sn k⟩
 have:=seenA_at seen hk
 simp only [World.cell?,h.sn]
 simpa using this
end
structure DcStart (w0 W:World):Prop where
 r9:Box9 W w0.heap.size 29 (.int .i64 0) (.int .i64 0) (.slice none 0 0) (.int .u32 0) (.int .u32 0) (.int .u32 0) (.int .u32 0) (.int .u32 0) (.slice none 0 0)
 n3:Box3 W (w0.heap.size+1) 34 (.int .i64 0) (.int .i64 0) (.slice none 0 0)
 b9:Box9 W (w0.heap.size+2) 29 (.int .i64 0) (.int .i64 0) (.slice none 0 0) (.int .u32 0) (.int .u32 0) (.int .u32 0) (.int .u32 0) (.int .u32 0) (.slice none 0 0)
 sn:W.heap[w0.heap.size+3]?=some (.cells (seenA []) 159)
 size:W.heap.size=w0.heap.size+4
 low:Below w0.heap.size w0 W
theorem DcStart.start {w0 W W2:World} {b:Nat} {l:List Nat} (h:DcStart w0 W) (hr:R W2 W.heap.size W2.heap.size (.pointer (some ⟨b,0,none⟩)) l false (fun q=>q=b)) (hb:Below W.heap.size W W2):DcSt w0 b W2.heap.size [] zeroA ⟨l,false⟩ W2:=by
 have hs:=hb.size
 rw [h.size] at hr hs
 refine ⟨h.r9.keep hb,h.n3.keep hb,⟨zeroA_ok,⟨by omega,Nat.le_refl _⟩,none,0,0,none,0,0,h.b9.keep hb,nil_segsF _ _ _,U32s.nil _,NewAt.nil _⟩,(hb.block _ (by rw [h.size];omega)).trans h.sn,hr,h.low.trans (hb.mono h.low.size)⟩
theorem dec_boxes (w:World):DcStart w ((((w.alloc (.cells #[.int .i64 0,.int .i64 0,.slice none 0 0,.int .u32 0,.int .u32 0,.int .u32 0,.int .u32 0,.int .u32 0,.slice none 0 0] 29)).alloc (.cells #[.int .i64 0,.int .i64 0,.slice none 0 0] 34)).alloc (.cells #[.int .i64 0,.int .i64 0,.slice none 0 0,.int .u32 0,.int .u32 0,.int .u32 0,.int .u32 0,.int .u32 0,.slice none 0 0] 29)).alloc (.cells Tryz.zeroCells159 159)):=by
 have h1:=Box9.new w 29 (.int .i64 0) (.int .i64 0) (.slice none 0 0) (.int .u32 0) (.int .u32 0) (.int .u32 0) (.int .u32 0) (.int .u32 0) (.slice none 0 0)
 have b1:Below w.heap.size w (w.alloc (.cells #[.int .i64 0,.int .i64 0,.slice none 0 0,.int .u32 0,.int .u32 0,.int .u32 0,.int .u32 0,.int .u32 0,.slice none 0 0] 29)):=(Below.refl _ _).alloc (Nat.le_refl _) _
 have e1:(w.alloc (.cells #[.int .i64 0,.int .i64 0,.slice none 0 0,.int .u32 0,.int .u32 0,.int .u32 0,.int .u32 0,.int .u32 0,.slice none 0 0] 29)).heap.size=w.heap.size+1:=by simp
 obtain ⟨w1,hw1⟩:∃ w1,w1=w.alloc (.cells #[.int .i64 0,.int .i64 0,.slice none 0 0,.int .u32 0,.int .u32 0,.int .u32 0,.int .u32 0,.int .u32 0,.slice none 0 0] 29):=⟨_,rfl⟩
 rw [← hw1] at h1 b1 e1 ⊢
 have h2:=Box3.new w1 34 (.int .i64 0) (.int .i64 0) (.slice none 0 0)
 have b2:Below w1.heap.size w1 (w1.alloc (.cells #[.int .i64 0,.int .i64 0,.slice none 0 0] 34)):=(Below.refl _ _).alloc (Nat.le_refl _) _
 have e2:(w1.alloc (.cells #[.int .i64 0,.int .i64 0,.slice none 0 0] 34)).heap.size=w.heap.size+2:=by simp [e1]
 obtain ⟨w2,hw2⟩:∃ w2,w2=w1.alloc (.cells #[.int .i64 0,.int .i64 0,.slice none 0 0] 34):=⟨_,rfl⟩
 rw [← hw2] at h2 b2 e2 ⊢
 have h3:=Box9.new w2 29 (.int .i64 0) (.int .i64 0) (.slice none 0 0) (.int .u32 0) (.int .u32 0) (.int .u32 0) (.int .u32 0) (.int .u32 0) (.slice none 0 0)
 have b3:Below w2.heap.size w2 (w2.alloc (.cells #[.int .i64 0,.int .i64 0,.slice none 0 0,.int .u32 0,.int .u32 0,.int .u32 0,.int .u32 0,.int .u32 0,.slice none 0 0] 29)):=(Below.refl _ _).alloc (Nat.le_refl _) _
 have e3:(w2.alloc (.cells #[.int .i64 0,.int .i64 0,.slice none 0 0,.int .u32 0,.int .u32 0,.int .u32 0,.int .u32 0,.int .u32 0,.slice none 0 0] 29)).heap.size=w.heap.size+3:=by simp [e2]
 obtain ⟨w3,hw3⟩:∃ w3,w3=w2.alloc (.cells #[.int .i64 0,.int .i64 0,.slice none 0 0,.int .u32 0,.int .u32 0,.int .u32 0,.int .u32 0,.int .u32 0,.slice none 0 0] 29):=⟨_,rfl⟩
 rw [← hw3] at h3 b3 e3 ⊢
 have b4:Below w3.heap.size w3 (w3.alloc (.cells Tryz.zeroCells159 159)):=(Below.refl _ _).alloc (Nat.le_refl _) _
 rw [e1] at h2
 rw [e2] at h3
 refine ⟨((h1.keep b2).keep b3).keep b4,(h2.keep b3).keep b4,h3.keep b4,?_,by simp [e3],(b1.trans (b2.mono b1.size)).trans ((b3.mono (by omega)).trans (b4.mono (by omega)))⟩
 have:=heap_alloc_new w3 (.cells Tryz.zeroCells159 159)
 rw [e3] at this
 rw [this,seen_zero]
theorem dec_mid {W:World} {n0:Nat} {x y z:Value} (h3:Box3 W (n0+1) 34 x y z) (v0 v1 v2 v3 v4 v5 v6 v7 v8:Value):Box3 (nine W n0 v0 v1 v2 v3 v4 v5 v6 v7 v8) (n0+1) 34 x y z:=⟨((nine_off W n0 v0 v1 v2 v3 v4 v5 v6 v7 v8).1 (n0+1) (by omega)).trans h3.blk⟩
theorem dec_end {w0 W:World} {n0:Nat} {q0 q1 q2 q3 q4 q5 q6 q7 q8 x y z:Value} (h9:Box9 W n0 29 q0 q1 q2 q3 q4 q5 q6 q7 q8) (h3:Box3 W (n0+1) 34 x y z) (hb:Below n0 w0 W) (v0 v1 v2 v3 v4 v5 v6 v7 v8 x' y' z':Value) :
  Box9 (three (nine W n0 v0 v1 v2 v3 v4 v5 v6 v7 v8) (n0+1) x' y' z') n0 29 v0 v1 v2 v3 v4 v5 v6 v7 v8∧Box3 (three (nine W n0 v0 v1 v2 v3 v4 v5 v6 v7 v8) (n0+1) x' y' z') (n0+1) 34 x' y' z'∧(∀ k,n0+1<k→(three (nine W n0 v0 v1 v2 v3 v4 v5 v6 v7 v8) (n0+1) x' y' z').heap[k]?=W.heap[k]?)∧W.heap.size≤(three (nine W n0 v0 v1 v2 v3 v4 v5 v6 v7 v8) (n0+1) x' y' z').heap.size∧Below n0 w0 (three (nine W n0 v0 v1 v2 v3 v4 v5 v6 v7 v8) (n0+1) x' y' z'):=by
 have a9:Box9 (nine W n0 v0 v1 v2 v3 v4 v5 v6 v7 v8) n0 29 v0 v1 v2 v3 v4 v5 v6 v7 v8:=((((((((h9.set0 v0).set1 v1).set2 v2).set3 v3).set4 v4).set5 v5).set6 v6).set7 v7).set8 v8
 have o1:=nine_off W n0 v0 v1 v2 v3 v4 v5 v6 v7 v8
 have o2:=three_off (nine W n0 v0 v1 v2 v3 v4 v5 v6 v7 v8) (n0+1) x' y' z'
 exact ⟨⟨(o2.1 n0 (by omega)).trans a9.blk⟩,(dec_mid h3 v0 v1 v2 v3 v4 v5 v6 v7 v8).laid x' y' z',fun k hk=>(o2.1 k (by omega)).trans (o1.1 k (by omega)),Nat.le_trans o1.2 o2.2,three_low (nine_low hb n0 (Nat.le_refl _) v0 v1 v2 v3 v4 v5 v6 v7 v8) (n0+1) (by omega) x' y' z'⟩
theorem n9z:∀ u∈[Value.int .i64 0,.int .i64 0,.slice none 0 0,.int .u32 0,.int .u32 0,.int .u32 0,.int .u32 0,.int .u32 0,.slice none 0 0],No8 u:=n9 (h:=0) (o:=0) (hp:=0) (md:=0) (pr:=0) (ag:=0) (ai:=0)
theorem item_new (W:World) (x y z:Value):Box3 (W.alloc (.cells #[x,y,z] 161)) W.heap.size 161 x y z∧Below W.heap.size W (W.alloc (.cells #[x,y,z] 161)) :=
 ⟨Box3.new W 161 x y z,(Below.refl _ _).alloc (Nat.le_refl _) _⟩
theorem segs_lower {t:TypeId} {n m:Nat} {W:World} {v:Value} {p:List Piece} (h:OwnSegsF t n n W v p) (hm:m≤n):OwnSegsF t m m W v p:=by
 obtain ⟨q,h1,h2,h3,h4⟩:=h
 exact ⟨q,own_base h1 hm,h2,h3,fun x hx b off k c e h0=>Nat.le_trans hm (h4 x hx b off k c e h0)⟩
def DecG (b:List Nat) (w:World) (e:Ending) (w':World):Prop:=∃ va vn,e=.returned (.tuple #[va,vn])∧AtF w.heap.size w' va (outA (decodeA b)).1∧Note w' vn (outA (decodeA b)).2∧Below w.heap.size w w'
theorem atF_zero (n:Nat) (W:World):AtF n W (.agg #[.int .i64 0,.int .i64 0,.slice none 0 0,.int .u32 0,.int .u32 0,.int .u32 0,.int .u32 0,.int .u32 0,.slice none 0 0]) zeroA :=
 ⟨zeroA_ok,.slice none 0 0,.slice none 0 0,rfl,nil_segsF _ _ _,U32s.nil W,NewAt.nil _⟩
theorem dec_bad {b:List Nat} {w W:World} {n:No} {sub:Nat} {A:Option Addr} {m c:Nat} (h9:Box9 W w.heap.size 29 (.int .i64 0) (.int .i64 0) (.slice none 0 0) (.int .u32 0) (.int .u32 0) (.int .u32 0) (.int .u32 0) (.int .u32 0) (.slice none 0 0)) (h3:Box3 W (w.heap.size+1) 34 (.int .i64 0) (.int .i64 0) (.slice none 0 0)) (hb:Below w.heap.size w W)
  (hd:decodeA b=.inl n) (hn:Note W (.agg #[.int .i64 3,.int .i64 sub,.slice A m c]) n) :
  DecG b w (.returned (.tuple #[.agg #[.int .i64 0,.int .i64 0,.slice none 0 0,.int .u32 0,.int .u32 0,.int .u32 0,.int .u32 0,.int .u32 0,.slice none 0 0],.agg #[.int .i64 3,.int .i64 sub,.slice A m c]])) (three (nine W w.heap.size (.int .i64 0) (.int .i64 0) (.slice none 0 0) (.int .u32 0) (.int .u32 0) (.int .u32 0) (.int .u32 0) (.int .u32 0) (.slice none 0 0)) (w.heap.size+1) (.int .i64 3) (.int .i64 sub) (.slice A m c)):=by
 obtain ⟨k1,k2,k3,k4,k5⟩:=dec_end h9 h3 hb (.int .i64 0) (.int .i64 0) (.slice none 0 0) (.int .u32 0) (.int .u32 0) (.int .u32 0) (.int .u32 0) (.int .u32 0) (.slice none 0 0) (.int .i64 3) (.int .i64 sub) (.slice A m c)
 have ho1:=nine_off W w.heap.size (.int .i64 0) (.int .i64 0) (.slice none 0 0) (.int .u32 0) (.int .u32 0) (.int .u32 0) (.int .u32 0) (.int .u32 0) (.slice none 0 0)
 obtain ⟨g1,g2,vd,g3,g4⟩:=hn
 injection g3 with g3
 have g5:vd=.slice A m c:=by
  have:=congrArg (fun x:Array Value=>x[2]?) g3
  simpa using this.symm
 subst g5
 have m9:Box9 (nine W w.heap.size (.int .i64 0) (.int .i64 0) (.slice none 0 0) (.int .u32 0) (.int .u32 0) (.int .u32 0) (.int .u32 0) (.int .u32 0) (.slice none 0 0)) w.heap.size 29 (.int .i64 0) (.int .i64 0) (.slice none 0 0) (.int .u32 0) (.int .u32 0) (.int .u32 0) (.int .u32 0) (.int .u32 0) (.slice none 0 0):=((((((((h9.set0 _).set1 _).set2 _).set3 _).set4 _).set5 _).set6 _).set7 _).set8 _
 have u1:U8s (nine W w.heap.size (.int .i64 0) (.int .i64 0) (.slice none 0 0) (.int .u32 0) (.int .u32 0) (.int .u32 0) (.int .u32 0) (.int .u32 0) (.slice none 0 0)) (.slice A m c) n.data:=u8_apart g4 (h9.no8 n9z) (fun k hk=>?_) ho1.2
 ·have u2:=u8_apart u1 ((dec_mid h3 (.int .i64 0) (.int .i64 0) (.slice none 0 0) (.int .u32 0) (.int .u32 0) (.int .u32 0) (.int .u32 0) (.int .u32 0) (.slice none 0 0)).no8 (no8_i _) (no8_i _) (no8_s _ _ _)) (three_off _ _ _ _ _).1 (three_off _ _ (.int .i64 3) (.int .i64 sub) (.slice A m c)).2
  refine ⟨_,_,rfl,?_,?_,k5⟩
  ·rw [hd];exact atF_zero _ _
  ·rw [hd];exact ⟨g1,g2,_,congrArg Value.agg g3,u2⟩
 ·have hne:∀ i:Nat,k≠(⟨w.heap.size,i,none⟩:Addr).block:=fun i=>hk
  unfold nine
  simp only [Go.RowKit.Below.heap_setCell _ _ _ _ (hne _)]
theorem note_form {W:World} {v:Value} {n:No} (h:Note W v n):∃ vd,v=.agg #[.int .i64 n.code,.int .i64 n.sub,vd]∧U8s W vd n.data:=let ⟨_,_,vd,h3,h4⟩:=h;⟨vd,h3,h4⟩
theorem note_zero (W:World):Note W (.agg #[.int .i64 0,.int .i64 0,.slice none 0 0]) noneN:=⟨by decide,by decide,_,rfl,U8s.nil _⟩
theorem note_three (W:World) (s:Nat) (hs:s<256):Note W (.agg #[.int .i64 3,.int .i64 s,.slice none 0 0]) ⟨3,s,[]⟩:=⟨show (Lit.int .i64 3).wf=true by decide,by simp [Lit.wf,IntKind.min,IntKind.max,IntKind.signed,IntKind.bits];omega,_,rfl,U8s.nil _⟩
theorem Fine.off {seen:List Nat} {a:At} (h:Fine seen a) {k:Nat} (hk:k ∉ seen):a.has / 2 ^ k % 2=0:=by
 by_cases h8:k≤8
 ·exact h.free k h8 hk
 ·have h1:(2:Int) ^ k=((2 ^ k:Nat):Int):=by simp
  have h2:512≤2 ^ k:=Nat.le_trans (by decide:512≤2 ^ 9) (Nat.pow_le_pow_right (by omega) (by omega))
  rw [h1,Int.ediv_eq_zero_of_lt h.h0 (by have:=h.h5;omega)]
  rfl
theorem sub_bound (f k:Nat) (v:List Nat):subOf f k v<256∧subOf f k v≠1:=by
 by_cases hk:k<1∨8<k
 ·unfold subOf
  rw [if_pos hk]
  split <;> exact ⟨by omega,by omega⟩
 ·rw [sub_known hk]
  unfold fillN
  cases pathIs v <;> dsimp only <;> (repeat' split) <;> exact ⟨by omega,by omega⟩
theorem decode_g (v:Value) (b:List Nat) (w:World) (hv:U8s w v b) (hl:b.length≤100000) (hS:Shp w) :
  Calls Tryz.prog 92 #[v] w (DecG b w):=by
 have D0:=hid (dec_boxes w)
 have CN:=hid (new_any v b _ (hv.keep ((D0.out.low).mono (Nat.le_refl _))) (by omega))
 have HS:=hid hS
 have HB:=hid (And.intro hv.2 hl)
 clear hv hl hS
 go_enter Tryz.func92,Tryz.ntmps92
 go_wp2_with (go_at_call 81;refine (CN.out).mono ?_;rintro e w1 ⟨B,rfl,hR,hb⟩;have ST0:=hid (D0.out.start hR hb);clear hR hb)
 obtain ⟨N,hN⟩:∃ N,N=w1.heap.size:=⟨_,rfl⟩
 rw [← hN] at ST0
 clear hN D0 CN
 go_loopw [8] (fun _ wx=>∃ (l seen:List Nat) (a:At),Hid (Small l∧l.length≤b.length∧decodeA b=decF seen a l∧Fine seen a)∧Hid (DcSt w B N seen a ⟨l,false⟩ wx)) (fun _ wx=>cellLen wx B)
 case atStart=>exact ⟨b,[],zeroA,hid ⟨HB.out.1,Nat.le_refl _,rfl,fine_zero⟩,ST0⟩
 case round =>
  obtain ⟨l,seen,a,HI,ST⟩:=hrel
  have CL:=hid (left_any _ _ _ _ _ _ wr ST.out.rd)
  dsimp only at CL
  by_cases hne:l=[]
  ·subst hne
   have e0:¬ ((([]:List Nat).length:Nat):Int) > 0:=by simp
   obtain ⟨hok,hlt,Ap,np,cp,Ac,nc,cc,b9,hp,hc,hn⟩:=ST.out.box
   have HDC:=hid (show decodeA b=.inr (normA a) from HI.out.2.2.1)
   have CM:=hid (fun (W:World) (h:Below wr.heap.size wr W)=>pnormA_any (.agg #[.int .i64 a.has,.int .i64 a.origin,.slice Ap np cp,.int .u32 (a.hop:Nat),.int .u32 (a.med:Nat),.int .u32 (a.pref:Nat),.int .u32 (a.aas:Nat),.int .u32 (a.aid:Nat),.slice Ac nc cc]) a W ⟨hok,_,_,rfl,(hp.keep h).segs,hc.keep h⟩ HI.out.2.2.2.bk HI.out.2.2.2.fit HI.out.2.2.2.cm)
   obtain ⟨c0,c1,c2,c3,c4,c5,c6,c7,c8⟩:=b9.cells
   have H9:=hid b9
   clear b9 hp hc hn hok
   generalize normA a=q at CM HDC
   go_wp2_with (first
    | (go_at_call 87;refine (CL.out).mono ?_;rintro e x ⟨rfl,hb⟩;have S1:=hid (And.intro (ST.out.below hb) hb);clear c0 c1 c2 c3 c4 c5 c6 c7 c8;obtain ⟨c0,c1,c2,c3,c4,c5,c6,c7,c8⟩:=(H9.out.keep hb).cells;clear hb)
    | (go_at_call 139;(refine (CM.out _ S1.out.2).mono ?_;rintro e y ⟨_,rfl,⟨hq,vp,vc,rfl,hP,hC,hN⟩,hb⟩;have S2:=hid (S1.out.1.below hb);obtain ⟨ap,cp2,rfl⟩:=hP.form;obtain ⟨ac,cc2,rfl,-,-,-,-⟩:=hC.open_;have HQ:=hid (And.intro hq (And.intro hP (And.intro hC (And.intro hN S1.out.1.lts.2.1))));obtain ⟨q0,q1,q2,q3,q4,q5,q6,q7,q8⟩:=q;dsimp only [acells];clear hb hq hP hC hN c0 c1 c2 c3 c4 c5 c6 c7 c8;obtain ⟨c0,c1,c2,c3,c4,c5,c6,c7,c8⟩:=S2.out.r9.cells;have f9:=S2.out.r9.free;obtain ⟨d0,d1,d2⟩:=(dec_mid S2.out.n3 (.int .i64 q0) (.int .i64 q1) (.slice ap q2.length cp2) (.int .u32 q3) (.int .u32 q4) (.int .u32 q5) (.int .u32 q6) (.int .u32 q7) (.slice ac q8.length cc2)).cells;have f3:=(dec_mid S2.out.n3 (.int .i64 q0) (.int .i64 q1) (.slice ap q2.length cp2) (.int .u32 q3) (.int .u32 q4) (.int .u32 q5) (.int .u32 q6) (.int .u32 q7) (.slice ac q8.length cc2)).free;unfold nine at d0 d1 d2 f3)))
   obtain ⟨k1,k2,k3,k4,k5⟩:=dec_end S2.out.r9 S2.out.n3 S2.out.low (.int .i64 q0) (.int .i64 q1) (.slice ap q2.length cp2) (.int .u32 q3) (.int .u32 q4) (.int .u32 q5) (.int .u32 q6) (.int .u32 q7) (.slice ac q8.length cc2) (.int .i64 0) (.int .i64 0) (.slice none 0 0)
   have K:=hid (And.intro k3 (And.intro k4 k5))
   obtain ⟨r0,r1,r2,r3,r4,r5,r6,r7,r8⟩:=k1.cells
   obtain ⟨m0,m1,m2⟩:=k2.cells
   clear k1 k2 k3 k4 k5 c0 c1 c2 c3 c4 c5 c6 c7 c8 d0 d1 d2 f3 f9
   unfold three nine at r0 r1 r2 r3 r4 r5 r6 r7 r8 m0 m1 m2
   refine bodyPost_ret (v:=.tuple #[.agg #[.int .i64 q0,.int .i64 q1,.slice ap q2.length cp2,.int .u32 q3,.int .u32 q4,.int .u32 q5,.int .u32 q6,.int .u32 q7,.slice ac q8.length cc2],.agg #[.int .i64 0,.int .i64 0,.slice none 0 0]]) (by simp [results,Tryz.results92,go_sem,r0,r1,r2,r3,r4,r5,r6,r7,r8,m0,m1,m2]) rfl ?_
   refine ⟨_,_,rfl,?_,?_,K.out.2.2⟩
   ·rw [HDC.out]
    have hz:=HQ.out.2.2.2.2
    exact ⟨HQ.out.1,_,_,rfl,segs_lower (segs_off HQ.out.2.1 (fun k hk=>K.out.1 k (by omega)) K.out.2.1) (by omega),u32_off HQ.out.2.2.1 HQ.out.2.2.2.1 (fun k hk=>K.out.1 k (by omega)) K.out.2.1,NewAt.lower HQ.out.2.2.2.1 (by omega)⟩
   ·rw [HDC.out]
    exact note_zero _
  ·have z1:((l.length:Nat):Int) > 0:=by
    have:=List.length_pos_iff.2 hne
    omega
   have hsm:=HI.out.1
   cases hit:itemOf l with
   | none =>
    have HDC:=hid (HI.out.2.2.1.trans (decF_none hne hit))
    have CX:=hid (fun (W:World) (h:R W (w.heap.size+4) N (.pointer (some ⟨B,0,none⟩)) l false (fun q=>q=B)) (hn:N≤W.heap.size)=>next_any (.pointer (some ⟨B,0,none⟩)) (w.heap.size+4) N l (fun q=>q=B) W hsm h hn)
    unfold NextF at CX
    have hrb:=next_none hit
    generalize nxF l=xf at CX
    generalize nxK l=xk at CX
    generalize nxV l=xv at CX
    generalize nxR l=nr at CX hrb
    obtain ⟨xr,rb⟩:=nr
    dsimp only at CX hrb
    subst hrb
    clear hit hsm
    go_wp2_with (first
     | (go_at_call 87;refine (CL.out).mono ?_;rintro e x0 ⟨rfl,hb⟩;have S1:=hid (ST.out.below hb);clear hb)
     | (have h:=S1.out;go_at_call 136;(refine (CX.out _ h.rd h.box.lt.2).mono ?_;rintro e x1 ⟨A,c,rfl,hU,hR,ho⟩;obtain ⟨i1,i2⟩:=item_new x1 (.int .i64 xf) (.int .i64 xk) (.slice A xv.length c);have S3:=hid ((h.read (y:=⟨xr,true⟩) hR ho).below i2);have D3:=hid i1;have U3:=hid (hU.keep i2);have Z3:=hid (Nat.lt_of_lt_of_le h.lts.2.2.1 ho.size);clear h hU hR ho S1;obtain ⟨d0,d1,d2⟩:=i1.cells;clear i1 i2))
     | (have h:=S3.out;go_at_call 85;(refine (bad_any _ _ _ _ _ _ _ h.rd).mono ?_;rintro e x2 ⟨rfl,hb⟩;have S4:=hid (h.below hb);have D4:=hid (D3.out.keep hb);have U4:=hid (U3.out.keep hb);clear hb h S3 D3 U3 d0 d1 d2;obtain ⟨d0,d1,d2⟩:=D4.out.cells))
     | (go_at_call 137;(refine (notice_none _ _ A _ c 1 _ (.inl rfl)).mono ?_;rintro e x3 ⟨rfl,hb⟩;have S5:=hid (S4.out.below hb);clear hb S4 d0 d1 d2;obtain ⟨c0,c1,c2,c3,c4,c5,c6,c7,c8⟩:=S5.out.r9.cells;have f9:=S5.out.r9.free;obtain ⟨m0,m1,m2⟩:=(dec_mid S5.out.n3 (.int .i64 0) (.int .i64 0) (.slice none 0 0) (.int .u32 0) (.int .u32 0) (.int .u32 0) (.int .u32 0) (.int .u32 0) (.slice none 0 0)).cells;have f3:=(dec_mid S5.out.n3 (.int .i64 0) (.int .i64 0) (.slice none 0 0) (.int .u32 0) (.int .u32 0) (.int .u32 0) (.int .u32 0) (.int .u32 0) (.slice none 0 0)).free;unfold nine at m0 m1 m2 f3)))
    obtain ⟨k1,k2,-⟩:=dec_end S5.out.r9 S5.out.n3 S5.out.low (.int .i64 0) (.int .i64 0) (.slice none 0 0) (.int .u32 0) (.int .u32 0) (.int .u32 0) (.int .u32 0) (.int .u32 0) (.slice none 0 0) (.int .i64 3) (.int .i64 1) (.slice none 0 0)
    obtain ⟨r0,r1,r2,r3,r4,r5,r6,r7,r8⟩:=k1.cells
    obtain ⟨t0,t1,t2⟩:=k2.cells
    clear k1 k2 c0 c1 c2 c3 c4 c5 c6 c7 c8 m0 m1 m2 f3 f9
    unfold three nine at r0 r1 r2 r3 r4 r5 r6 r7 r8 t0 t1 t2
    refine bodyPost_ret (by simp [results,Tryz.results92,go_sem,r0,r1,r2,r3,r4,r5,r6,r7,r8,t0,t1,t2]) rfl (dec_bad S5.out.r9 S5.out.n3 S5.out.low HDC.out (note_three _ 1 (by decide)))
   | some x =>
    obtain ⟨xf,xk,xv,xr⟩:=x
    obtain ⟨hx1,hx2,hx3,hx4⟩:=next_some hit
    obtain ⟨hf1,hk1,hv1,hv2,hv3,hr1,hr2,hr3⟩:=item_facts hsm hit
    have HDF:=hid (HI.out.2.2.1.trans (decF_some hsm hit))
    dsimp only at hx1 hx2 hx3 hx4 hf1 hk1 hv1 hv2 hv3 hr1 hr2 hr3 HDF
    have CX:=hid (fun (W:World) (h:R W (w.heap.size+4) N (.pointer (some ⟨B,0,none⟩)) l false (fun q=>q=B)) (hn:N≤W.heap.size)=>next_any (.pointer (some ⟨B,0,none⟩)) (w.heap.size+4) N l (fun q=>q=B) W hsm h hn)
    unfold NextF at CX
    rw [hx1,hx2,hx3,hx4] at CX
    dsimp only at CX
    have HF:=hid (And.intro hf1 (And.intro hk1 (And.intro hv1 (And.intro hv2 hv3))))
    have HR:=hid (And.intro hr1 (And.intro hr2 hr3))
    have z2:(0:Int)≤(xk:Int):=by omega
    have z3:(xk:Int)<256:=by omega
    have CE:=hid (fun (W:World) (a:At) (x:Rd) (seen:List Nat) (h:DcSt w B N seen a x W)=>show W.cell? ⟨w.heap.size+1+1+1,xk,none⟩=some (.bool (decide (xk∈seen)))∧W.frozen? ⟨w.heap.size+1+1+1,xk,none⟩=false from h.seen_cell HF.out.2.1)
    clear hit hsm hx1 hx2 hx3 hx4 hf1 hk1 hv1 hv2 hv3 hr1 hr2 hr3
    by_cases hse:xk∈seen
    ·have HDC:=hid (HDF.out.trans (if_pos hse))
     have hd:decide (xk∈seen)=true:=decide_eq_true hse
     clear HDF hse
     go_wp2_with (first
      | (go_at_call 87;refine (CL.out).mono ?_;rintro e x0 ⟨rfl,hb⟩;have S1:=hid (ST.out.below hb);clear hb)
      | (have h:=S1.out;go_at_call 136;(refine (CX.out _ h.rd h.box.lt.2).mono ?_;rintro e x1 ⟨A,c,rfl,hU,hR,ho⟩;obtain ⟨i1,i2⟩:=item_new x1 (.int .i64 xf) (.int .i64 xk) (.slice A xv.length c);have S3:=hid ((h.read (y:=⟨xr,false⟩) hR ho).below i2);have D3:=hid i1;have U3:=hid (hU.keep i2);have Z3:=hid (Nat.lt_of_lt_of_le h.lts.2.2.1 ho.size);clear h hU hR ho S1;obtain ⟨d0,d1,d2⟩:=i1.cells;clear i1 i2))
      | (have h:=S3.out;go_at_call 85;(refine (bad_any _ _ _ _ _ _ _ h.rd).mono ?_;rintro e x2 ⟨rfl,hb⟩;have S4:=hid (h.below hb);have D4:=hid (D3.out.keep hb);have U4:=hid (U3.out.keep hb);clear hb h S3 D3 U3 d0 d1 d2;obtain ⟨d0,d1,d2⟩:=D4.out.cells;obtain ⟨s0,s1⟩:=CE.out _ _ _ _ S4.out;rw [hd] at s0))
      | (go_at_call 137;(refine (notice_none _ _ A _ c 1 _ (.inl rfl)).mono ?_;rintro e x3 ⟨rfl,hb⟩;have S5:=hid (S4.out.below hb);clear hb S4 d0 d1 d2;obtain ⟨c0,c1,c2,c3,c4,c5,c6,c7,c8⟩:=S5.out.r9.cells;have f9:=S5.out.r9.free;obtain ⟨m0,m1,m2⟩:=(dec_mid S5.out.n3 (.int .i64 0) (.int .i64 0) (.slice none 0 0) (.int .u32 0) (.int .u32 0) (.int .u32 0) (.int .u32 0) (.int .u32 0) (.slice none 0 0)).cells;have f3:=(dec_mid S5.out.n3 (.int .i64 0) (.int .i64 0) (.slice none 0 0) (.int .u32 0) (.int .u32 0) (.int .u32 0) (.int .u32 0) (.int .u32 0) (.slice none 0 0)).free;unfold nine at m0 m1 m2 f3)))
     obtain ⟨k1,k2,-⟩:=dec_end S5.out.r9 S5.out.n3 S5.out.low (.int .i64 0) (.int .i64 0) (.slice none 0 0) (.int .u32 0) (.int .u32 0) (.int .u32 0) (.int .u32 0) (.int .u32 0) (.slice none 0 0) (.int .i64 3) (.int .i64 1) (.slice none 0 0)
     obtain ⟨r0,r1,r2,r3,r4,r5,r6,r7,r8⟩:=k1.cells
     obtain ⟨t0,t1,t2⟩:=k2.cells
     clear k1 k2 c0 c1 c2 c3 c4 c5 c6 c7 c8 m0 m1 m2 f3 f9
     unfold three nine at r0 r1 r2 r3 r4 r5 r6 r7 r8 t0 t1 t2
     refine bodyPost_ret (by simp [results,Tryz.results92,go_sem,r0,r1,r2,r3,r4,r5,r6,r7,r8,t0,t1,t2]) rfl (dec_bad S5.out.r9 S5.out.n3 S5.out.low HDC.out (note_three _ 1 (by decide)))
    ·have hd:decide (xk∈seen)=false:=decide_eq_false hse
     have HD2:=hid (HDF.out.trans (if_neg hse))
     have CRD:=hid (fun (A:Option Addr) (c:Nat) (W:World) (seen2:List Nat) (h:DcSt w B N seen2 a ⟨xr,false⟩ W) (hu:U8s W (.slice A xv.length c) xv)=>show Calls Tryz.prog 138 #[.agg #[.int .i64 xf,.int .i64 xk,.slice A xv.length c],.pointer (some ⟨w.heap.size+1+1,0,none⟩)] W (ReadF (w.heap.size+2) N a xf xk xv W) from read_any xf xk A c xv W (w.heap.size+2) N a h.box hu (HS.out.keep h.low) HF.out.1 HF.out.2.2.1 HI.out.2.2.2.h0 HI.out.2.2.2.h5 (HI.out.2.2.2.off hse))
     unfold ReadF at CRD
     have HFL:=hid (fun (h:subOf xf xk xv=0)=>HI.out.2.2.2.lay HF.out.2.2.2.2 HF.out.2.2.1 hse h)
     clear HDF
     by_cases hs0:subOf xf xk xv=0
     ·have HDC:=hid (HD2.out.trans (if_pos hs0))
      have HFN:=hid (HFL.out hs0)
      rw [hs0] at CRD
      clear hs0 HD2 HFL hse
      go_wp2_with (first
       | (go_at_call 87;refine (CL.out).mono ?_;rintro e x0 ⟨rfl,hb⟩;have S1:=hid (ST.out.below hb);clear hb)
       | (have h:=S1.out;go_at_call 136;(refine (CX.out _ h.rd h.box.lt.2).mono ?_;rintro e x1 ⟨A,c,rfl,hU,hR,ho⟩;obtain ⟨i1,i2⟩:=item_new x1 (.int .i64 xf) (.int .i64 xk) (.slice A xv.length c);have S3:=hid ((h.read (y:=⟨xr,false⟩) hR ho).below i2);have D3:=hid i1;have U3:=hid (hU.keep i2);have Z3:=hid (Nat.lt_of_lt_of_le h.lts.2.2.1 ho.size);clear h hU hR ho S1;obtain ⟨d0,d1,d2⟩:=i1.cells;clear i1 i2))
       | (have h:=S3.out;go_at_call 85;(refine (bad_any _ _ _ _ _ _ _ h.rd).mono ?_;rintro e x2 ⟨rfl,hb⟩;have S4:=hid (h.below hb);have D4:=hid (D3.out.keep hb);have U4:=hid (U3.out.keep hb);clear hb h S3 D3 U3 d0 d1 d2;obtain ⟨d0,d1,d2⟩:=D4.out.cells;obtain ⟨s0,s1⟩:=CE.out _ _ _ _ S4.out;rw [hd] at s0;have S5:=hid (show DcSt w B N (xk :: seen) a ⟨xr,false⟩ (x2.setCell ⟨w.heap.size+1+1+1,xk,none⟩ (.bool true)) from S4.out.mark HF.out.2.1);have D5:=hid (D4.out.far (i:=xk) (C:=w.heap.size+1+1+1) (by have:=Z3.out;omega) (.bool true));have U5:=hid (u8_only U4.out (seen_no8 S4.out.sn) (Only.set (F:=fun q=>q=w.heap.size+3) (b:=w.heap.size+3) (i:=xk) (Only.refl _ _) rfl (.bool true)));obtain ⟨e0,e1,e2⟩:=D5.out.cells))
       | (have h:=S5.out;go_at_call 138;(refine (CRD.out A c _ _ h U5.out).mono ?_;rintro e x3 ⟨rfl,ho,hg⟩;have S6:=hid (h.fill ho (hg (by first | rfl | trivial)));clear h ho hg S5 S4 D5 D4 U5 U4 d0 d1 d2 e0 e1 e2 s0 s1)))
      go_roundw
      case rel=>exact ⟨xr,xk :: seen,layA a xk xv,hid ⟨HR.out.1,by have:=HR.out.2.1;have:=HI.out.2.1;omega,HDC.out,HFN.out⟩,S6⟩
      case measure =>
       rw [cellLen_is S6.out.rd,cellLen_is ST.out.rd]
       have:=HR.out.2.1
       dsimp only
       omega
     ·have HDC:=hid (HD2.out.trans (if_neg hs0))
      obtain ⟨hsb,hs1⟩:=sub_bound xf xk xv
      clear HD2 HFL hse
      generalize subOf xf xk xv=s at CRD HDC hs0 hsb hs1
      by_cases h11:s=11
      ·subst h11
       have HDC:=hid (show decodeA b=.inl ⟨3,(11:Nat),[]⟩ from HDC.out)
       clear hs0 hsb hs1
       go_wp2_with (first
        | (go_at_call 87;refine (CL.out).mono ?_;rintro e x0 ⟨rfl,hb⟩;have S1:=hid (ST.out.below hb);clear hb)
        | (have h:=S1.out;go_at_call 136;(refine (CX.out _ h.rd h.box.lt.2).mono ?_;rintro e x1 ⟨A,c,rfl,hU,hR,ho⟩;obtain ⟨i1,i2⟩:=item_new x1 (.int .i64 xf) (.int .i64 xk) (.slice A xv.length c);have S3:=hid ((h.read (y:=⟨xr,false⟩) hR ho).below i2);have D3:=hid i1;have U3:=hid (hU.keep i2);have Z3:=hid (Nat.lt_of_lt_of_le h.lts.2.2.1 ho.size);clear h hU hR ho S1;obtain ⟨d0,d1,d2⟩:=i1.cells;clear i1 i2))
        | (have h:=S3.out;go_at_call 85;(refine (bad_any _ _ _ _ _ _ _ h.rd).mono ?_;rintro e x2 ⟨rfl,hb⟩;have S4:=hid (h.below hb);have D4:=hid (D3.out.keep hb);have U4:=hid (U3.out.keep hb);clear hb h S3 D3 U3 d0 d1 d2;obtain ⟨d0,d1,d2⟩:=D4.out.cells;obtain ⟨s0,s1⟩:=CE.out _ _ _ _ S4.out;rw [hd] at s0;have S5:=hid (show DcSt w B N (xk :: seen) a ⟨xr,false⟩ (x2.setCell ⟨w.heap.size+1+1+1,xk,none⟩ (.bool true)) from S4.out.mark HF.out.2.1);have D5:=hid (D4.out.far (i:=xk) (C:=w.heap.size+1+1+1) (by have:=Z3.out;omega) (.bool true));have U5:=hid (u8_only U4.out (seen_no8 S4.out.sn) (Only.set (F:=fun q=>q=w.heap.size+3) (b:=w.heap.size+3) (i:=xk) (Only.refl _ _) rfl (.bool true)));obtain ⟨e0,e1,e2⟩:=D5.out.cells))
        | (have h:=S5.out;go_at_call 138;(refine (CRD.out A c _ _ h U5.out).mono ?_;rintro e x3 ⟨rfl,ho,-⟩;have L6:=hid (h.lost ho);have D6:=hid (D5.out.below (fun k e=>by subst e;exact ho.block _ D5.out.lt (by have:=Z3.out;omega)));obtain ⟨-,-,Ap,np,cp,Ac,nc,cc,b9,-,-,-⟩:=h.box;have U6:=hid (u8_only U5.out (b9.no8 n9) ho);clear h ho b9 S5 S4 D5 D4 U5 U4 d0 d1 d2 e0 e1 e2 s0 s1;obtain ⟨d0,d1,d2⟩:=D6.out.cells))
        | (go_at_call 137;(refine (notice_none _ _ A _ c 11 _ (.inr rfl)).mono ?_;rintro e x4 ⟨rfl,hb⟩;have L7:=hid (And.intro (L6.out.1.keep hb) (And.intro (L6.out.2.1.keep hb) (L6.out.2.2.trans (hb.mono L6.out.2.2.size))));clear hb d0 d1 d2;obtain ⟨c0,c1,c2,c3,c4,c5,c6,c7,c8⟩:=L7.out.1.cells;have f9:=L7.out.1.free;obtain ⟨m0,m1,m2⟩:=(dec_mid L7.out.2.1 (.int .i64 0) (.int .i64 0) (.slice none 0 0) (.int .u32 0) (.int .u32 0) (.int .u32 0) (.int .u32 0) (.int .u32 0) (.slice none 0 0)).cells;have f3:=(dec_mid L7.out.2.1 (.int .i64 0) (.int .i64 0) (.slice none 0 0) (.int .u32 0) (.int .u32 0) (.int .u32 0) (.int .u32 0) (.int .u32 0) (.slice none 0 0)).free;unfold nine at m0 m1 m2 f3)))
       obtain ⟨k1,k2,-⟩:=dec_end L7.out.1 L7.out.2.1 L7.out.2.2 (.int .i64 0) (.int .i64 0) (.slice none 0 0) (.int .u32 0) (.int .u32 0) (.int .u32 0) (.int .u32 0) (.int .u32 0) (.slice none 0 0) (.int .i64 3) (.int .i64 11) (.slice none 0 0)
       obtain ⟨r0,r1,r2,r3,r4,r5,r6,r7,r8⟩:=k1.cells
       obtain ⟨t0,t1,t2⟩:=k2.cells
       clear k1 k2 c0 c1 c2 c3 c4 c5 c6 c7 c8 m0 m1 m2 f3 f9
       unfold three nine at r0 r1 r2 r3 r4 r5 r6 r7 r8 t0 t1 t2
       refine bodyPost_ret (by simp [results,Tryz.results92,go_sem,r0,r1,r2,r3,r4,r5,r6,r7,r8,t0,t1,t2]) rfl (dec_bad L7.out.1 L7.out.2.1 L7.out.2.2 HDC.out (note_three _ 11 (by decide)))
      ·have y1:((s:Int) != 0)=true:=by simp;omega
       have HDC:=hid (show decodeA b=.inl ⟨3,s,itemB xf xk xv⟩ from HDC.out.trans (by unfold badN;rw [if_neg h11]))
       have CND:=hid (fun (A:Option Addr) (c:Nat) (W:World) (hu:U8s W (.slice A xv.length c) xv)=>notice_data xf xk A xv c s W hu HF.out.1 HF.out.2.1 HF.out.2.2.1 HF.out.2.2.2.1 hs1 h11 hsb)
       generalize itemB xf xk xv=M at HDC CND
       clear hs0 hsb hs1 h11
       go_wp2_with (first
        | (go_at_call 87;refine (CL.out).mono ?_;rintro e x0 ⟨rfl,hb⟩;have S1:=hid (ST.out.below hb);clear hb)
        | (have h:=S1.out;go_at_call 136;(refine (CX.out _ h.rd h.box.lt.2).mono ?_;rintro e x1 ⟨A,c,rfl,hU,hR,ho⟩;obtain ⟨i1,i2⟩:=item_new x1 (.int .i64 xf) (.int .i64 xk) (.slice A xv.length c);have S3:=hid ((h.read (y:=⟨xr,false⟩) hR ho).below i2);have D3:=hid i1;have U3:=hid (hU.keep i2);have Z3:=hid (Nat.lt_of_lt_of_le h.lts.2.2.1 ho.size);clear h hU hR ho S1;obtain ⟨d0,d1,d2⟩:=i1.cells;clear i1 i2))
        | (have h:=S3.out;go_at_call 85;(refine (bad_any _ _ _ _ _ _ _ h.rd).mono ?_;rintro e x2 ⟨rfl,hb⟩;have S4:=hid (h.below hb);have D4:=hid (D3.out.keep hb);have U4:=hid (U3.out.keep hb);clear hb h S3 D3 U3 d0 d1 d2;obtain ⟨d0,d1,d2⟩:=D4.out.cells;obtain ⟨s0,s1⟩:=CE.out _ _ _ _ S4.out;rw [hd] at s0;have S5:=hid (show DcSt w B N (xk :: seen) a ⟨xr,false⟩ (x2.setCell ⟨w.heap.size+1+1+1,xk,none⟩ (.bool true)) from S4.out.mark HF.out.2.1);have D5:=hid (D4.out.far (i:=xk) (C:=w.heap.size+1+1+1) (by have:=Z3.out;omega) (.bool true));have U5:=hid (u8_only U4.out (seen_no8 S4.out.sn) (Only.set (F:=fun q=>q=w.heap.size+3) (b:=w.heap.size+3) (i:=xk) (Only.refl _ _) rfl (.bool true)));obtain ⟨e0,e1,e2⟩:=D5.out.cells))
        | (have h:=S5.out;go_at_call 138;(refine (CRD.out A c _ _ h U5.out).mono ?_;rintro e x3 ⟨rfl,ho,-⟩;have L6:=hid (h.lost ho);have D6:=hid (D5.out.below (fun k e=>by subst e;exact ho.block _ D5.out.lt (by have:=Z3.out;omega)));obtain ⟨-,-,Ap,np,cp,Ac,nc,cc,b9,-,-,-⟩:=h.box;have U6:=hid (u8_only U5.out (b9.no8 n9) ho);clear h ho b9 S5 S4 D5 D4 U5 U4 d0 d1 d2 e0 e1 e2 s0 s1;obtain ⟨d0,d1,d2⟩:=D6.out.cells))
        | (go_at_call 137;(refine (CND.out A c _ U6.out).mono ?_;rintro e x4 ⟨v4,rfl,hno,hb⟩;obtain ⟨vd,rfl,hnv⟩:=note_form hno;obtain ⟨Av,cv,rfl,-,-⟩:=hnv.form;have NO:=hid hno;have L7:=hid (And.intro (L6.out.1.keep hb) (And.intro (L6.out.2.1.keep hb) (L6.out.2.2.trans (hb.mono L6.out.2.2.size))));clear hb hno hnv d0 d1 d2;obtain ⟨c0,c1,c2,c3,c4,c5,c6,c7,c8⟩:=L7.out.1.cells;have f9:=L7.out.1.free;obtain ⟨m0,m1,m2⟩:=(dec_mid L7.out.2.1 (.int .i64 0) (.int .i64 0) (.slice none 0 0) (.int .u32 0) (.int .u32 0) (.int .u32 0) (.int .u32 0) (.int .u32 0) (.slice none 0 0)).cells;have f3:=(dec_mid L7.out.2.1 (.int .i64 0) (.int .i64 0) (.slice none 0 0) (.int .u32 0) (.int .u32 0) (.int .u32 0) (.int .u32 0) (.int .u32 0) (.slice none 0 0)).free;unfold nine at m0 m1 m2 f3)))
       obtain ⟨k1,k2,-⟩:=dec_end L7.out.1 L7.out.2.1 L7.out.2.2 (.int .i64 0) (.int .i64 0) (.slice none 0 0) (.int .u32 0) (.int .u32 0) (.int .u32 0) (.int .u32 0) (.int .u32 0) (.slice none 0 0) (.int .i64 3) (.int .i64 s) (.slice Av M.length cv)
       obtain ⟨r0,r1,r2,r3,r4,r5,r6,r7,r8⟩:=k1.cells
       obtain ⟨t0,t1,t2⟩:=k2.cells
       clear k1 k2 c0 c1 c2 c3 c4 c5 c6 c7 c8 m0 m1 m2 f3 f9
       unfold three nine at r0 r1 r2 r3 r4 r5 r6 r7 r8 t0 t1 t2
       refine bodyPost_ret (by simp [results,Tryz.results92,go_sem,r0,r1,r2,r3,r4,r5,r6,r7,r8,t0,t1,t2]) rfl (dec_bad L7.out.1 L7.out.2.1 L7.out.2.2 HDC.out NO.out)
end Att
namespace Att
open Go.RowKit Mem Segm Oct Seg
theorem fewS_fit (p:List Piece):(fewS p).length≤12∧FitS 300 (fewS p):=by
 unfold fewS
 refine ⟨by rw [List.length_map,List.length_take];omega,fun s hs=>?_⟩
 obtain ⟨r,_,rfl⟩:=List.mem_map.1 hs
 unfold fewOne
 rw [List.length_take]
 omega
theorem fit_lens:∀ (p:List Piece) (m:Nat),FitS m p→lens p≤m*p.length
 | [],m,_=>by simp [lens]
 | s :: p,m,h=>by
  have h1:=fit_lens p m (fun x hx=>h x (List.mem_cons_of_mem _ hx))
  have h2:=h s (List.mem_cons_self ..)
  have e:lens (s :: p)=s.2.length+lens p:=by simp [lens]
  rw [e,List.length_cons,Nat.mul_succ]
  omega
theorem fewS_twice (p:List Piece):fewS (fewS p)=fewS p:=by
 unfold fewS
 rw [List.take_of_length_le (by rw [List.length_map,List.length_take];omega),List.map_map]
 apply List.map_congr_left
 intro s _
 unfold fewOne
 simp [List.take_take]
theorem fewA_twice (a:At):fewA (fewA a)=fewA a:=by
 unfold fewA
 dsimp only
 rw [fewS_twice]
 simp [List.take_take]
structure Cut8 (a:At):Prop where
 few:fewA a=a
 bk:bulk a.path≤40000
 ln:lens a.path≤100000
 fit:FitS 300 a.path
 cm:a.comms.length≤260
theorem cut8_few (a:At):Cut8 (fewA a):=by
 obtain ⟨h1,h2⟩:=fewS_fit a.path
 have h3:=fit_lens _ _ h2
 refine ⟨fewA_twice a,?_,?_,h2,?_⟩
 ·show bulk (fewS a.path)≤40000
  rw [bulk_is];omega
 ·show lens (fewS a.path)≤100000
  omega
 ·show (a.comms.take 260).length≤260
  rw [List.length_take];omega
theorem fit_more {m n:Nat} {p:List Piece} (h:FitS m p) (hm:m≤n):FitS n p:=fun s hs=>Nat.le_trans (h s hs) hm
end Att
namespace Att
open Segm Rise Oct
theorem drop_front {l r:List Nat} {n m:Nat} (h:l.length=m):(l ++ r).drop (m+n)=r.drop n:=by
 subst h
 rw [List.drop_append,List.drop_of_length_le (by omega),List.nil_append]
 congr 1
 omega
theorem take_front {l r:List Nat} {m:Nat} (h:l.length=m):(l ++ r).take m=l:=by
 subst h
 exact List.take_left
theorem quadsN_fours:∀ (l r:List Nat),(∀ n∈l,n<4294967296)→quadsN (fours l ++ r) l.length=l
 | [],r,_=>rfl
 | n :: l,r,h=>by
  have ih:=quadsN_fours l r (fun x hx=>h x (by simp [hx]))
  unfold quadsN at ih ⊢
  rw [List.length_cons,List.range_succ_eq_map,List.map_cons,List.map_map,fours_cons,List.append_assoc]
  have e0:val (((big n 4 ++ (fours l ++ r)).drop (4*0)).take 4)=n:=by
   rw [Nat.mul_zero,List.drop_zero,take_front (big_len n 4)]
   exact val_big4 (h n (by simp))
  rw [e0]
  congr 1
theorem quads_fours (l:List Nat) (h:∀ n∈l,n<4294967296):quads (fours l)=l:=by
 unfold quads
 have e:=quadsN_fours l [] h
 rw [List.append_nil] at e
 rw [fours_len,Nat.mul_div_cancel_left _ (by decide)]
 exact e
theorem pathIs_pathB:∀ (p:List Piece),(∀ s∈p,((s.1=1∨s.1=2)∧1≤s.2.length∧s.2.length≤255)∧∀ n∈s.2,n<4294967296)→pathIs (pathB p)=some p
 | [],_=>rfl
 | (k,l) :: p,h=>by
  obtain ⟨⟨hk,h1,h2⟩,hn⟩:=h (k,l) (by simp)
  have ih:=pathIs_pathB p (fun s hs=>h s (by simp [hs]))
  dsimp only at hk h1 h2 hn
  have e1:((lo8 k:Nat):Int)=k:=by unfold lo8;omega
  have e2:lo8 (l.length:Int)=l.length:=by unfold lo8;omega
  have e3:lo8 k=1∨lo8 k=2:=by omega
  rw [pathB_cons]
  show pathIs (lo8 k :: lo8 (l.length:Int) :: (fours l ++ pathB p))=_
  rw [pathIs_step,e2,if_pos ⟨e3,by omega,by rw [List.length_append,fours_len];omega⟩,quadsN_fours l _ hn,e1]
  have e4:(fours l ++ pathB p).drop (4*l.length)=pathB p:=by rw [← fours_len,List.drop_left]
  rw [e4,ih]
  rfl
theorem itemB_back {f k:Nat} {v r:List Nat} (h:v.length≤65535):itemOf (itemB f k v ++ r)=some ⟨f,k,v,r⟩:=by
 unfold itemB
 by_cases hf:f / 16 % 2=1
 ·rw [if_pos hf,big2]
  show itemOf (f :: k :: (v.length / 256 % 256) :: (v.length % 256) :: (v ++ r))=_
  have e:v.length / 256 % 256*256+v.length % 256=v.length:=by omega
  unfold itemOf
  dsimp only
  rw [if_pos hf,e,if_pos (by simp),List.take_left,List.drop_left]
 ·rw [if_neg hf]
  show itemOf (f :: k :: v.length :: (v ++ r))=_
  unfold itemOf
  dsimp only
  rw [if_neg hf,if_pos (by simp),List.take_left,List.drop_left]
def partA (a:At) (j:Nat):At:=⟨(hasUpto a.has j:Nat),if 1≤j∧hasB a.has 1=true then a.origin else 0,if 2≤j∧hasB a.has 2=true then a.path else [],if 3≤j∧hasB a.has 3=true then a.hop else 0,if 4≤j∧hasB a.has 4=true then a.med else 0,if 5≤j∧hasB a.has 5=true then a.pref else 0,
 if 7≤j∧hasB a.has 7=true then a.aas else 0,if 7≤j∧hasB a.has 7=true then a.aid else 0,if 8≤j∧hasB a.has 8=true then a.comms else []⟩
structure GoodR (a:At):Prop where
 good:goodA a=true
 path:∀ s∈a.path,∀ n∈s.2,n<4294967296
 comms:∀ n∈a.comms,n<4294967296
 ok:a.ok
theorem GoodR.parts {a:At} (h:GoodR a):normA a=a∧0≤a.origin∧a.origin≤2∧goodP a.path=true∧lens a.path≤2000∧(hasB a.has 3=true→hopB a.hop=true)∧a.comms.length≤255:=by
 have hg:=h.good
 unfold goodA waysP at hg
 simp only [Bool.and_eq_true,decide_eq_true_eq,sameA_iff,Bool.or_eq_true,Bool.not_eq_true'] at hg
 obtain ⟨⟨⟨⟨⟨h1,h2⟩,h3⟩,h4,h5⟩,h6⟩,h7⟩:=hg
 exact ⟨h1,h2,h3,h4,h5,fun hh=>h6.elim (fun x=>by rw [hh] at x;cases x) id,h7⟩
theorem GoodR.pathIs {a:At} (h:GoodR a):pathIs (pathB a.path)=some a.path :=
 pathIs_pathB _ fun s hs=>⟨good_piece h.parts.2.2.2.1 hs,h.path s hs⟩
theorem part_eight {a:At} (h:normA a=a):partA a 8=a:=by
 have e0:=congrArg At.has h
 have e1:=congrArg At.origin h
 have e2:=congrArg At.path h
 have e3:=congrArg At.hop h
 have e4:=congrArg At.med h
 have e5:=congrArg At.pref h
 have e6:=congrArg At.aas h
 have e7:=congrArg At.aid h
 have e8:=congrArg At.comms h
 obtain ⟨a0,a1,a2,a3,a4,a5,a6,a7,a8⟩:=a
 simp only [normA] at e0 e1 e2 e3 e4 e5 e6 e7 e8
 unfold partA
 simp only [At.mk.injEq]
 refine ⟨e0,?_,?_,?_,?_,?_,?_,?_,?_⟩
 ·rw [← e1];cases hasB a0 1 <;> simp
 ·cases hb:hasB a0 2
  ·rw [hb] at e2;rw [← e2];simp
  ·simp
 ·rw [← e3];cases hasB a0 3 <;> simp
 ·rw [← e4];cases hasB a0 4 <;> simp
 ·rw [← e5];cases hasB a0 5 <;> simp
 ·rw [← e6];cases hasB a0 7 <;> simp
 ·rw [← e7];cases hasB a0 7 <;> simp
 ·cases hb:hasB a0 8
  ·rw [hb] at e8;rw [← e8];simp
  ·simp
theorem part_no {a:At} {k:Nat} (h1:1≤k) (h8:k≤8) (hb:hasB a.has (k:Int)=false):partA a k=partA a (k - 1):=by
 have hk:k=1∨k=2∨k=3∨k=4∨k=5∨k=6∨k=7∨k=8:=by omega
 rcases hk with rfl | rfl | rfl | rfl | rfl | rfl | rfl | rfl
 ·change hasB a.has 1=false at hb;simp [partA,hasUpto,hb]
 ·change hasB a.has 2=false at hb;simp [partA,hasUpto,hb]
 ·change hasB a.has 3=false at hb;simp [partA,hasUpto,hb]
 ·change hasB a.has 4=false at hb;simp [partA,hasUpto,hb]
 ·change hasB a.has 5=false at hb;simp [partA,hasUpto,hb]
 ·change hasB a.has 6=false at hb;simp [partA,hasUpto,hb]
 ·change hasB a.has 7=false at hb;simp [partA,hasUpto,hb]
 ·change hasB a.has 8=false at hb;simp [partA,hasUpto,hb]
theorem part_yes {a:At} (h:GoodR a) {k:Nat} (h1:1≤k) (h8:k≤8) (hb:hasB a.has (k:Int)=true):layA (partA a (k - 1)) k (valB a k)=partA a k:=by
 obtain ⟨-,g1,g2,-⟩:=h.parts
 obtain ⟨-,-,o3,o4,o5,o6,o7⟩:=h.ok
 have hk:k=1∨k=2∨k=3∨k=4∨k=5∨k=6∨k=7∨k=8:=by omega
 have v1:((val [lo8 a.origin]:Nat):Int)=a.origin:=by
  have:lo8 a.origin=a.origin.toNat:=by unfold lo8;omega
  rw [this]
  simp [val];omega
 have v2:=h.pathIs
 have v3:=val_big4 o3
 have v4:=val_big4 o4
 have v5:=val_big4 o5
 have v6:val ((big a.aas 4 ++ big a.aid 4).take 4)=a.aas:=by
  rw [take_front (big_len a.aas 4)];exact val_big4 o6
 have v7:val ((big a.aas 4 ++ big a.aid 4).drop 4)=a.aid:=by
  have e:(big a.aas 4 ++ big a.aid 4).drop 4=big a.aid 4:=by rw [show 4=4+0 from rfl,drop_front (big_len a.aas 4),List.drop_zero]
  rw [e];exact val_big4 o7
 have v8:=quads_fours a.comms h.comms
 rcases hk with rfl | rfl | rfl | rfl | rfl | rfl | rfl | rfl
 ·change hasB a.has 1=true at hb;simp [partA,layA,valB,hasUpto,hb,v1]
 ·change hasB a.has 2=true at hb;simp [partA,layA,valB,hasUpto,hb,v2]
 ·change hasB a.has 3=true at hb;simp [partA,layA,valB,hasUpto,hb,v3]
 ·change hasB a.has 4=true at hb;simp [partA,layA,valB,hasUpto,hb,v4]
 ·change hasB a.has 5=true at hb;simp [partA,layA,valB,hasUpto,hb,v5]
 ·change hasB a.has 6=true at hb;simp [partA,layA,hasUpto,hb]
 ·change hasB a.has 7=true at hb;simp [partA,layA,valB,hasUpto,hb,v6,v7]
 ·change hasB a.has 8=true at hb;simp [partA,layA,valB,hasUpto,hb,v8]
theorem sub_zero {a:At} (h:GoodR a) {k:Nat} (h1:1≤k) (h8:k≤8) (hb:hasB a.has (k:Int)=true):subOf (longF (flagN k) (valB a k).length) k (valB a k)=0:=by
 obtain ⟨-,g1,g2,g3,g4,g5,g6⟩:=h.parts
 obtain ⟨-,-,o3,-⟩:=h.ok
 have hO:ownF (longF (flagN k) (valB a k).length) k=flagN k:=by
  generalize (valB a k).length=n
  have hk:k=1∨k=2∨k=3∨k=4∨k=5∨k=6∨k=7∨k=8:=by omega
  unfold longF
  by_cases hn:255<n
  ·rw [if_pos hn]
   rcases hk with rfl | rfl | rfl | rfl | rfl | rfl | rfl | rfl <;> rfl
  ·rw [if_neg hn]
   rcases hk with rfl | rfl | rfl | rfl | rfl | rfl | rfl | rfl <;> rfl
 have hL:longB k (valB a k).length=true:=by
  have hk:k=1∨k=2∨k=3∨k=4∨k=5∨k=6∨k=7∨k=8:=by omega
  have e8:(valB a 8).length=4*a.comms.length:=by show (fours a.comms).length=_;exact fours_len _
  rcases hk with rfl | rfl | rfl | rfl | rfl | rfl | rfl | rfl
  ·rfl
  ·rfl
  ·show longB 3 (big a.hop 4).length=true;rw [big_len];rfl
  ·show longB 4 (big a.med 4).length=true;rw [big_len];rfl
  ·show longB 5 (big a.pref 4).length=true;rw [big_len];rfl
  ·rfl
  ·show longB 7 (big a.aas 4 ++ big a.aid 4).length=true;rw [List.length_append,big_len,big_len];rfl
  ·rw [e8]
   unfold longB
   rw [if_pos rfl,decide_eq_true (by omega),decide_eq_true (by omega)];rfl
 unfold subOf
 rw [if_neg (by omega),if_neg (fun hne=>hne hO),if_neg (by rw [hL];decide)]
 by_cases k1:k=1
 ·subst k1
  rw [if_pos rfl,if_neg]
  show ¬ 2<val [lo8 a.origin]
  have e:lo8 a.origin=a.origin.toNat:=by unfold lo8;omega
  rw [e]
  simp [val];omega
 rw [if_neg k1]
 by_cases k2:k=2
 ·subst k2
  rw [if_pos rfl,show valB a 2=pathB a.path from rfl,h.pathIs]
  dsimp only
  rw [good_norm g3,g3,decide_eq_true g4];rfl
 rw [if_neg k2]
 by_cases k3:k=3
 ·subst k3
  rw [if_pos rfl,show valB a 3=big a.hop 4 from rfl,val_big4 o3,g5 hb];rfl
 rw [if_neg k3]
def oneB (a:At) (k:Nat):List Nat:=if hasB a.has (k:Int) then attrB a k else []
theorem encA_is (a:At):encA a=oneB a 1 ++ (oneB a 2 ++ (oneB a 3 ++ (oneB a 4 ++ (oneB a 5 ++ (oneB a 6 ++ (oneB a 7 ++ (oneB a 8 ++ []))))))):=by
 show encTo a 8=_
 simp only [encTo,oneB,List.nil_append,List.append_assoc,List.append_nil]
theorem attrB_small (a:At) {k:Nat} (h1:1≤k) (h8:k≤8) (hl:(valB a k).length≤65535):Small (attrB a k):=by
 have hs:=valB_small a k
 have hf:longF (flagN k) (valB a k).length<256:=by
  unfold longF
  rcases flagN_is3 h1 h8 with e | e | e <;> rw [e] <;> split <;> omega
 unfold attrB itemB
 split
 ·intro n hn
  simp only [List.mem_cons,List.mem_append] at hn
  rcases hn with rfl | rfl | hn | hn
  ·exact hf
  ·omega
  ·exact big_small _ _ n hn
  ·exact hs n hn
 ·rename_i hq
  intro n hn
  simp only [List.mem_cons] at hn
  rcases hn with rfl | rfl | rfl | hn
  ·exact hf
  ·omega
  ·unfold longF at hq
   rcases flagN_is3 h1 h8 with e | e | e <;> rw [e] at hq <;> split at hq <;> omega
  ·exact hs n hn
theorem oneB_small {a:At} (h:GoodR a) {k:Nat} (h1:1≤k) (h8:k≤8):Small (oneB a k):=by
 unfold oneB
 split
 ·exact attrB_small a h1 h8 (by have:=valB_len h.good k;omega)
 ·exact small_nil
theorem dec_step {a:At} (h:GoodR a) {k:Nat} (h1:1≤k) (h8:k≤8) {seen:List Nat} (hs:∀ x∈seen,x<k) {r:List Nat} (hr:Small r) :
  ∃ s2,(∀ x∈s2,x<k+1)∧decF seen (partA a (k - 1)) (oneB a k ++ r)=decF s2 (partA a k) r:=by
 cases hb:hasB a.has (k:Int) with
 | false =>
  refine ⟨seen,fun x hx=>by have:=hs x hx;omega,?_⟩
  have e:oneB a k=[]:=by unfold oneB;rw [hb];rfl
  rw [e,List.nil_append,part_no h1 h8 hb]
 | true =>
  have e:oneB a k=attrB a k:=by unfold oneB;rw [hb];rfl
  have hl:(valB a k).length≤65535:=by have:=valB_len h.good k;omega
  refine ⟨k :: seen,fun x hx=>?_,?_⟩
  ·rcases List.mem_cons.1 hx with rfl | hx
   ·omega
   ·have:=hs x hx;omega
  ·have hi:itemOf (attrB a k ++ r)=some ⟨longF (flagN k) (valB a k).length,k,valB a k,r⟩:=itemB_back hl
   rw [e,decF_some ((attrB_small a h1 h8 hl).append hr) hi]
   dsimp only
   rw [if_neg (fun hm=>by have:=hs k hm;omega),if_pos (sub_zero h h1 h8 hb),part_yes h h1 h8 hb]
theorem dec_enc {a:At} (h:GoodR a):decodeA (encA a)=.inr a:=by
 have r9:Small []:=small_nil
 have r8:=(oneB_small h (k:=8) (by omega) (by omega)).append r9
 have r7:=(oneB_small h (k:=7) (by omega) (by omega)).append r8
 have r6:=(oneB_small h (k:=6) (by omega) (by omega)).append r7
 have r5:=(oneB_small h (k:=5) (by omega) (by omega)).append r6
 have r4:=(oneB_small h (k:=4) (by omega) (by omega)).append r5
 have r3:=(oneB_small h (k:=3) (by omega) (by omega)).append r4
 have r2:=(oneB_small h (k:=2) (by omega) (by omega)).append r3
 show decF [] zeroA (encA a)=_
 rw [encA_is]
 obtain ⟨s1,g1,e1⟩:=dec_step h (k:=1) (by omega) (by omega) (seen:=[]) (fun x hx=>by cases hx) r2
 obtain ⟨s2,g2,e2⟩:=dec_step h (k:=2) (by omega) (by omega) g1 r3
 obtain ⟨s3,g3,e3⟩:=dec_step h (k:=3) (by omega) (by omega) g2 r4
 obtain ⟨s4,g4,e4⟩:=dec_step h (k:=4) (by omega) (by omega) g3 r5
 obtain ⟨s5,g5,e5⟩:=dec_step h (k:=5) (by omega) (by omega) g4 r6
 obtain ⟨s6,g6,e6⟩:=dec_step h (k:=6) (by omega) (by omega) g5 r7
 obtain ⟨s7,g7,e7⟩:=dec_step h (k:=7) (by omega) (by omega) g6 r8
 obtain ⟨s8,g8,e8⟩:=dec_step h (k:=8) (by omega) (by omega) g7 r9
 have e0:partA a (1 - 1)=zeroA:=by simp [partA,hasUpto,zeroA]
 rw [e0] at e1
 rw [e1]
 refine (e2.trans (e3.trans (e4.trans (e5.trans (e6.trans (e7.trans e8)))))).trans ?_
 rw [decF_nil,part_eight h.parts.1,h.parts.1]
end Att
namespace Upd
open Oct Att PR
theorem lead {m r:List Nat} (hm:m.length<65536):(big m.length 2 ++ m ++ r).take 2=big m.length 2∧val ((big m.length 2 ++ m ++ r).take 2)=m.length∧((big m.length 2 ++ m ++ r).drop 2).take m.length=m∧(big m.length 2 ++ m ++ r).drop (2+m.length)=r:=by
 have h2:(big m.length 2).length=2:=big_len _ _
 have e1:(big m.length 2 ++ m ++ r).take 2=big m.length 2:=by rw [List.append_assoc,List.take_left' h2]
 refine ⟨e1,by rw [e1,val_big2 hm],?_,?_⟩
 ·rw [List.append_assoc,List.drop_left' h2,List.take_left' rfl]
 ·rw [List.drop_left' (by rw [List.length_append,h2])]
theorem encs_pos {p:Pf} {l:List Pf}:encs (p :: l)≠[]:=by
 intro h
 have e:encs (p :: l)=enc p ++ encs l:=by simp [encs]
 rw [e] at h
 have:=(List.append_eq_nil_iff.1 h).1
 unfold enc at this
 cases this
theorem dec_encU {u:Up} (hg:goodU u=true) (ho:Oks u.gone) (hh:Oks u.here) (hr:u.here≠[]→GoodR u.at_) (hl:(encU u).length≤4077):decU (encU u)=.inr u:=by
 obtain ⟨g,a,h⟩:=u
 unfold goodU at hg
 simp only [Bool.and_eq_true] at hg
 dsimp only at hg ho hh hr hl
 obtain ⟨⟨g1,g2⟩,g3⟩:=hg
 have hl1:(encs g).length≤4077:=by unfold encU at hl;simp only [List.length_append,big_len] at hl;omega
 have hl2:(encA a).length≤4077:=by unfold encU at hl;simp only [List.length_append,big_len] at hl;omega
 have e:encU ⟨g,a,h⟩=big (encs g).length 2 ++ encs g ++ (big (encA a).length 2 ++ encA a ++ encs h):=by unfold encU;simp
 rw [e]
 obtain ⟨-,v1,t1,d1⟩:=lead (m:=encs g) (r:=big (encA a).length 2 ++ encA a ++ encs h) (by omega)
 obtain ⟨-,v2,t2,d2⟩:=lead (m:=encA a) (r:=encs h) (by omega)
 unfold decU
 rw [v1,t1,d1,if_neg (by simp only [List.length_append,big_len];omega),if_neg (by simp only [List.length_append,big_len];omega),dec_encs g1 ho]
 unfold decU1
 dsimp only
 rw [v2,t2,d2,if_neg (by simp only [List.length_append,big_len];omega),if_neg (by simp only [List.length_append,big_len];omega)]
 cases h with
 | nil =>
  rw [if_pos rfl] at g3
  obtain rfl:=sameA_iff.1 g3
  have e0:encA zeroA=[]:=by decide +kernel
  rw [e0]
  have e1:decodeA []=.inr zeroA:=by kernel_rfl
  rw [e1]
  show decU3 g zeroA (encs [])=_
  unfold decU3
  rw [if_pos (by simp [encs])]
 | cons p l =>
  rw [if_neg (by simp),Bool.and_eq_true] at g3
  rw [Att.dec_enc (hr (by simp))]
  show decU3 g a (encs (p :: l))=_
  unfold decU3
  rw [if_neg encs_pos,if_neg (by rw [g3.2];decide),dec_encs g2 hh]
end Upd
namespace Msg
open Oct Att PR Opn Upd Ntc Frm
theorem wrap_head {k:Nat} {l:List Nat} (r:List Nat) (hk:1≤k∧k≤4) (hl:leastH k≤19+l.length) (hm:19+l.length≤4096) (h4:k=4→l=[]) :
  headH (wrapB k l ++ r)=noneF∧lenH (wrapB k l ++ r)=19+l.length∧typH (wrapB k l ++ r)=k:=by
 have e:wrapB k l ++ r=List.replicate 16 255 ++ (big (19+l.length) 2 ++ ([lo8 (k:Int)] ++ (l ++ r))):=by unfold wrapB;simp
 have h1:(wrapB k l ++ r).take 16=List.replicate 16 255:=by rw [e];exact List.take_left' (by simp)
 have h2:(wrapB k l ++ r).drop 16=big (19+l.length) 2 ++ ([lo8 (k:Int)] ++ (l ++ r)):=by rw [e];exact List.drop_left' (by simp)
 have h3:((wrapB k l ++ r).drop 16).take 2=big (19+l.length) 2:=by rw [h2];exact List.take_left' (big_len _ _)
 have hn:lenH (wrapB k l ++ r)=19+l.length:=by unfold lenH;rw [h3];exact val_big2 (by omega)
 have ht:typH (wrapB k l ++ r)=k:=by
  have h5:(wrapB k l ++ r)[18]?=some (lo8 (k:Int)):=by
   have h6:((wrapB k l ++ r).drop 16)[2]?=some (lo8 (k:Int)):=by
    rw [h2,List.getElem?_append_right (by rw [big_len];exact Nat.le_refl _),big_len]
    rfl
   rwa [List.getElem?_drop] at h6
  unfold typH
  rw [h5]
  show lo8 (k:Int)=k
  unfold lo8
  omega
 refine ⟨?_,hn,ht⟩
 unfold headH
 rw [h1,hn,ht,if_neg (by simp),if_neg (by omega),if_neg (by omega),if_neg]
 rintro (h | ⟨h,h6⟩)
 ·omega
 ·rw [h4 h] at h6;simp at h6
theorem pcs_wrap {k:Nat} {l:List Nat} (r:List Nat) (hk:1≤k∧k≤4) (hl:leastH k≤19+l.length) (hm:19+l.length≤4096) (h4:k=4→l=[]) :
  pcs (wrapB k l ++ r)=((k,l) :: (pcs r).1,19+l.length+(pcs r).2.1,(pcs r).2.2):=by
 obtain ⟨h1,h2,h3⟩:=wrap_head r hk hl hm h4
 have hw:=wrapB_len (k:Int) l
 have e1:(wrapB k l ++ r).drop (19+l.length)=r:=List.drop_left' hw
 have e2:((wrapB k l ++ r).take (19+l.length)).drop 19=l:=by
  rw [List.take_left' hw]
  unfold wrapB
  exact List.drop_left' (by simp [big_len])
 rw [pcs_step,if_neg (by rw [List.length_append];omega),h1,if_neg (by simp [noneF]),h2,if_neg (by rw [List.length_append];omega),h3,e1,e2]
structure GoodW (m:Ms):Prop where
 good:goodM m=true
 op:m.kind=1→m.op.ok
 up:m.kind=2→Oks m.up.gone∧Oks m.up.here∧(m.up.here≠[]→GoodR m.up.at_)∧(encU m.up).length≤4077
def wireM (m:Ms):List Nat:=wrapB m.kind (bodyM m)
theorem lo8_id {n:Int} (h:0≤n) (h2:n≤255):((lo8 n:Nat):Int)=n:=by unfold lo8;omega
theorem dec_encM {m:Ms} (h:GoodW m):decM m.kind (bodyM m)=(onlyM m,noN):=by
 obtain ⟨hg,ho,hu⟩:=h
 obtain ⟨k,o,u,n⟩:=m
 have hc:noN.code=0:=rfl
 rcases good_kind hg with ⟨rfl,h1⟩ | ⟨rfl,h1⟩ | ⟨rfl,h1⟩ | rfl
 ·have e:=dec_encO h1 (ho rfl)
  unfold decM rawM bodyM onlyM
  simp [e,outO,noN]
 ·obtain ⟨k1,k2,k3,k4⟩:=hu rfl
  have e:=dec_encU h1 k1 k2 k3 k4
  unfold decM rawM bodyM onlyM
  simp [e,outU,noN]
 ·obtain ⟨c1,c2,s1,s2,hl⟩:=goodN_of h1
  dsimp only at c1 c2 s1 s2 hl
  have hb:ntcB (encN n)=true:=decide_eq_true ⟨by simp [encN],by
   show some (lo8 n.code)≠some 0
   intro e
   injection e with e
   have:=lo8_id (by omega) c2
   omega,by simp [encN];omega⟩
  have hd:ntcD (encN n)=n:=by
   obtain ⟨c,s,d⟩:=n
   show No.mk ((lo8 c:Nat):Int) ((lo8 s:Nat):Int) d=_
   have c3:(1:Int)≤c:=c1
   rw [lo8_id (by omega) c2,lo8_id s1 s2]
  unfold decM rawM bodyM onlyM
  simp [hb,hd,noN]
 ·unfold decM rawM bodyM onlyM
  simp [noN]
theorem body_size {m:Ms} (h:GoodW m):leastH m.kind.toNat≤19+(bodyM m).length∧19+(bodyM m).length≤4096∧(m.kind.toNat=4→bodyM m=[])∧1≤m.kind.toNat∧m.kind.toNat≤4:=by
 obtain ⟨hg,ho,hu⟩:=h
 obtain ⟨k,o,u,n⟩:=m
 rcases good_kind hg with ⟨rfl,h1⟩ | ⟨rfl,h1⟩ | ⟨rfl,h1⟩ | rfl
 ·have h3:10≤(encO o).length∧(encO o).length≤18:=by
   unfold encO
   split <;> simp [big_len]
  show 29≤19+(encO o).length∧19+(encO o).length≤4096∧(1=4→encO o=[])∧1≤1∧1≤4
  exact ⟨by omega,by omega,fun e=>(by cases e),by decide,by decide⟩
 ·have h3:4≤(encU u).length:=by
   unfold encU
   simp [big_len];omega
  have h4:(encU u).length≤4077:=(hu rfl).2.2.2
  show 23≤19+(encU u).length∧19+(encU u).length≤4096∧(2=4→encU u=[])∧1≤2∧2≤4
  exact ⟨by omega,by omega,fun e=>(by cases e),by decide,by decide⟩
 ·have h3:(encN n).length=2+n.data.length:=by simp [encN];omega
  have h4:n.data.length≤4075:=(goodN_of h1).2.2.2.2
  show 21≤19+(encN n).length∧19+(encN n).length≤4096∧(3=4→encN n=[])∧1≤3∧3≤4
  exact ⟨by omega,by omega,fun e=>(by cases e),by decide,by decide⟩
 ·show 19≤19+0∧19+0≤4096∧(4=4→bodyM ⟨4,o,u,n⟩=[])∧1≤4∧4≤4
  exact ⟨by decide,by decide,fun _=>rfl,by decide,by decide⟩
theorem readL_ok {bad:No} {t:Nat} {b:List Nat} {p:List Pc} (h:(decM t b).2.code=0):readL bad ((t,b) :: p)=((decM t b).1 :: (readL bad p).1,19+b.length+(readL bad p).2.1,(readL bad p).2.2):=if_pos h
theorem kind_back {m:Ms} (h:GoodW m):((m.kind.toNat:Nat):Int)=m.kind:=by
 have:=body_size h
 omega
theorem read_wire {m:Ms} (h:GoodW m) (r:List Nat):readM (wireM m ++ r)=(onlyM m :: (readM r).1,(wireM m).length+(readM r).2.1,(readM r).2.2):=by
 obtain ⟨h1,h2,h3,h4,h5⟩:=body_size h
 have hk:=kind_back h
 unfold wireM
 rw [← hk]
 unfold readM
 rw [pcs_wrap r ⟨h4,h5⟩ h1 h2 h3,wrapB_len]
 dsimp only
 have hd:=dec_encM h
 rw [← hk] at hd
 rw [readL_ok (by rw [hd];rfl),hd]
theorem read_many:∀ (l:List Ms),(∀ m∈l,GoodW m)→readM (l.flatMap wireM)=(l.map onlyM,(l.flatMap wireM).length,noN)
 | [],_=>rfl
 | m :: l,h=>by
  rw [List.flatMap_cons,read_wire (h m (by simp)),read_many l (fun x hx=>h x (by simp [hx]))]
  simp
def encR (m:Ms):List Nat × Int:=if goodM m then (if 4077<(bodyM m).length then ([],6) else (wireM m,0)) else ([],1)
end Msg
namespace Att
open Go.RowKit Mem Segm Oct Seg
theorem segs_small {W:World} {v:Value} {p:List Piece} (h:Segs W v p):∀ s∈p,∀ n∈s.2,n<4294967296:=by
 intro s hs n hn
 obtain ⟨A,c,rfl,-,-⟩:=h.form
 obtain ⟨i,hi,rfl⟩:=List.getElem_of_mem hs
 obtain ⟨b,off,x,-,-,-,-,hx⟩:=h.at_ (List.getElem?_eq_getElem hi)
 exact hx.2 n hn
theorem goodR_of {W:World} {v:Value} {q:At} (h:Attrs W v q) (hg:goodA q=true):GoodR q:=by
 obtain ⟨hok,vp,vc,rfl,hP,hC⟩:=h
 exact ⟨hg,segs_small hP,hC.2,hok⟩
theorem encA_small {a:At} (h:GoodR a):Small (encA a):=by
 rw [encA_is]
 exact (oneB_small h (by omega) (by omega)).append ((oneB_small h (by omega) (by omega)).append ((oneB_small h (by omega) (by omega)).append ((oneB_small h (by omega) (by omega)).append ((oneB_small h (by omega) (by omega)).append ((oneB_small h (by omega) (by omega)).append ((oneB_small h (by omega) (by omega)).append ((oneB_small h (by omega) (by omega)).append small_nil)))))))
end Att
namespace Msg
open Go.RowKit Mem Segm Oct Att Seg PR Opn Upd Ntc Frm
theorem goodw_of {v:Value} {m:Ms} {W:World} (h:Msgs W v m) (hg:goodM m=true) (hl:(bodyM m).length≤4077):GoodW m:=by
 obtain ⟨U,N,-,-,ho,hu,-⟩:=h
 obtain ⟨vg,vp,vc,vh,-,hg1,ha,hh⟩:=hu
 refine ⟨hg,fun _=>ho,fun hk=>?_⟩
 have hgu:goodU m.up=true:=by
  rcases good_kind hg with ⟨h1,-⟩ | ⟨-,h2⟩ | ⟨h1,-⟩ | h1
  ·omega
  ·exact h2
  ·omega
  ·omega
 refine ⟨hg1.2,hh.2,fun _=>goodR_of ha (goodU_at hgu).2.2,?_⟩
 unfold bodyM at hl
 rwa [if_neg (by omega),if_pos hk] at hl
theorem len_of {m:Ms} (hq:fewM m=m) (hg:goodM m=true):(bodyM m).length≤90000:=by
 unfold bodyM
 rcases good_kind hg with ⟨h1,-⟩ | ⟨h1,h2⟩ | ⟨h1,h2⟩ | h1
 ·rw [if_pos h1]
  unfold encO
  split <;> simp [big_len]
 ·rw [if_neg (by omega),if_pos h1]
  obtain ⟨g1,g2,g3⟩:=goodU_at h2
  have hu:fewU m.up=m.up:=by have h:=congrArg Ms.up hq;exact h
  have l1:m.up.gone.length≤30:=by rw [← hu];unfold fewU;rw [List.length_take];omega
  have l2:m.up.here.length≤30:=by rw [← hu];unfold fewU;rw [List.length_take];omega
  have n1:=encs_len g1
  have n2:=encs_len g2
  have n3:(encA m.up.at_).length≤66400:=by have h1:=encTo_len g3 8;show (encTo m.up.at_ 8).length≤_;omega
  unfold encU
  simp only [List.length_append,big_len]
  omega
 ·rw [if_neg (by omega),if_neg (by omega),if_pos h1]
  have:=goodN_of h2
  unfold encN
  simp only [List.length_append,List.length_singleton]
  omega
 ·rw [if_neg (by omega),if_neg (by omega),if_neg (by omega)]
  exact Nat.zero_le _
end Msg
end Go.Proofs.YtjfmompgkkdliaaGreatDoor
