/- Part of the proof. -/
import Derived.Test.YtjfmompgkkdliaaGreatDoorH23
import Derived.Test.YtjfmompgkkdliaaGreatDoorH36
import Derived.Test.YtjfmompgkkdliaaGreatDoorH35
import Derived.Test.YtjfmompgkkdliaaGreatDoorH17
import Derived.Test.YtjfmompgkkdliaaGreatDoorH10
import Derived.Test.YtjfmompgkkdliaaGreatDoorH06
import Derived.Test.YtjfmompgkkdliaaGreatDoorH11
import Derived.Test.YtjfmompgkkdliaaGreatDoorH20
import Derived.Test.YtjfmompgkkdliaaGreatDoorH16
import Derived.Test.YtjfmompgkkdliaaGreatDoorH24
import Derived.Test.YtjfmompgkkdliaaGreatDoorH03
import Derived.Test.YtjfmompgkkdliaaGreatDoorH01
import Derived.Test.YtjfmompgkkdliaaGreatDoorH18
import Derived.Test.YtjfmompgkkdliaaGreatDoorH02
open Go.Lib (hid)
set_option maxRecDepth 100000
set_option maxHeartbeats 40000000
namespace Go.Proofs.YtjfmompgkkdliaaGreatDoor
namespace Att
open Go.RowKit Mem Segm Oct Rise
def NewAt (n:Nat) (v:Value):Prop:=∀ b off m c,v=.slice (some ⟨b,off,none⟩) m c→0<m→n≤b
theorem u32_off {W W':World} {n:Nat} {v:Value} {l:List Nat} (h:U32s W v l) (hn:NewAt n v) (hk:∀ k,n≤k→W'.heap[k]?=W.heap[k]?) (hs:W.heap.size≤W'.heap.size):U32s W' v l:=by
 obtain ⟨⟨hl,A,c,rfl,hm,hc,hr⟩,hsm⟩:=h
 refine ⟨⟨hl,A,c,rfl,hm,hc,fun h0=>?_⟩,hsm⟩
 obtain ⟨b,off,rfl,hlt,hcell⟩:=hr h0
 refine ⟨b,off,rfl,Nat.lt_of_lt_of_le hlt hs,fun i y hy=>?_⟩
 have h5:=hcell i y hy
 have h6:=hk b (hn b off _ c rfl h0)
 unfold World.cell? at h5 ⊢
 simp only [h6]
 exact h5
theorem NewAt.lower {n m:Nat} {v:Value} (h:NewAt n v) (hm:m≤n):NewAt m v:=fun b off k c e h0=>Nat.le_trans hm (h b off k c e h0)
theorem NewAt.nil (n:Nat):NewAt n (.slice none 0 0):=fun b off m c e h0=>by injection e with e;cases e
def AtF (n:Nat) (W:World) (v:Value) (a:At):Prop:=a.ok∧∃ vp vc,v=.agg (acells a vp vc).toArray∧OwnSegsF 108 n n W vp a.path∧U32s W vc a.comms∧NewAt n vc
theorem AtF.attrs {n:Nat} {W:World} {v:Value} {a:At} (h:AtF n W v a):Attrs W v a:=by
 obtain ⟨h1,vp,vc,h2,h3,h4,h5⟩:=h
 exact ⟨h1,vp,vc,h2,h3.segs,h4⟩
theorem AtF.off {n:Nat} {W W':World} {v:Value} {a:At} (h:AtF n W v a) (hk:∀ k,n≤k→W'.heap[k]?=W.heap[k]?) (hs:W.heap.size≤W'.heap.size):AtF n W' v a:=by
 obtain ⟨h1,vp,vc,h2,h3,h4,h5⟩:=h
 exact ⟨h1,vp,vc,h2,segs_off h3 hk hs,u32_off h4 h5 hk hs,h5⟩
theorem set_fresh (v:Value) (l:List Nat) (w:World) (hv:U32s w v l) (hlen:l.length<5000) :
  Calls Tryz.prog 163 #[v] w (fun e w'=>∃ v',e=.returned v'∧U32s w' v' (setOf l)∧NewAt w.heap.size v'∧Below w.heap.size w w'):=by
 rcases Nat.eq_zero_or_pos l.length with h0 | h0
 ·have e:l=[]:=List.length_eq_zero_iff.1 h0
  subst e
  refine (Srt.set_any v [] w hv hlen).mono ?_
  rintro e w' ⟨v',h1,h2,h3⟩
  refine ⟨v',h1,h2,fun b off m c e2 hm=>?_,h3⟩
  obtain ⟨A,c',e3,-,-,-,-⟩:=h2.open_
  rw [e2] at e3
  injection e3 with _ e4 _
  have:(setOf ([]:List Nat)).length=0:=rfl
  omega
 ·refine (Srt.set_new v l w hv h0 hlen).mono ?_
  rintro e w' ⟨⟨v',h1,h2,h3⟩,h4⟩
  exact ⟨v',h1,h2,fun b off m c e2 _=>h4 v' b off m c h1 e2,h3⟩
theorem pnorm_in (ha oa hb ob:Int) (vp0 vc0:Value) (hp md pr ag ai hp1 md1 pr1 ag1 ai1 np cp nc cc:Nat) (Ap Ac:Option Addr) (p:List Piece) (cm:List Nat) (w:World)
  (CP:Hid (∀ W,Below w.heap.size w W→Calls Tryz.prog 113 #[.agg #[.int .i64 ha,.int .i64 oa,vp0,.int .u32 hp,.int .u32 md,.int .u32 pr,.int .u32 ag,.int .u32 ai,vc0]] W (Tells (.agg #[.int .i64 hb,.int .i64 ob,.slice Ap np cp,.int .u32 hp1,.int .u32 md1,.int .u32 pr1,.int .u32 ag1,.int .u32 ai1,.slice Ac nc cc]) W)))
  (CN:Hid (∀ W,Below w.heap.size w W→Calls Tryz.prog 162 #[.slice Ap np cp] W (GivesSegsF 108 (normS p) W)))
  (CS:Hid (∀ W,Below w.heap.size w W→Calls Tryz.prog 163 #[.slice Ac nc cc] W (fun e w'=>∃ v',e=.returned v'∧U32s w' v' (setOf cm)∧NewAt W.heap.size v'∧Below W.heap.size W w'))) :
  Calls Tryz.prog 139 #[.agg #[.int .i64 ha,.int .i64 oa,vp0,.int .u32 hp,.int .u32 md,.int .u32 pr,.int .u32 ag,.int .u32 ai,vc0]] w (fun e w'=>∃ vq vr,e=.returned (.agg #[.int .i64 hb,.int .i64 ob,vq,.int .u32 hp1,.int .u32 md1,.int .u32 pr1,.int .u32 ag1,.int .u32 ai1,vr])∧OwnSegsF 108 w.heap.size w.heap.size w' vq (normS p)∧U32s w' vr (setOf cm)∧NewAt w.heap.size vr∧Below w.heap.size w w'):=by
 have S:=hid (pres_new w (.int .i64 ha) (.int .i64 oa) (vp0) (.int .u32 hp) (.int .u32 md) (.int .u32 pr) (.int .u32 ag) (.int .u32 ai) (vc0))
 obtain ⟨c0,c1,c2,c3,c4,c5,c6,c7,c8⟩:=S.out.b1.cells
 have ff:=S.out.b1.free
 go_enter Tryz.func139,Tryz.ntmps139
 go_upto_region 1 with fail
 go_cut [] from 3 (fun wx=>Hid (PresSt w (.int .i64 hb) (.int .i64 ob) (.slice Ap np cp) (.int .u32 hp1) (.int .u32 md1) (.int .u32 pr1) (.int .u32 ag1) (.int .u32 ai1) (.slice Ac nc cc) wx))
 case first =>
  go_wp2_with (go_at_call 113;(refine (CP.out _ S.out.low).mono ?_;rintro e x ⟨rfl,hx⟩;replace S:=hid (S.out.below hx);clear ff c0 c1 c2 c3 c4 c5 c6 c7 c8 hx;obtain ⟨c0,c1,c2,c3,c4,c5,c6,c7,c8⟩:=S.out.b1.cells;have ff:=S.out.b1.free))
  go_meet
  exact hid (((((((((S.out.set0 (.int .i64 hb)).set1 (.int .i64 ob)).set2 (.slice Ap np cp)).set3 (.int .u32 hp1)).set4 (.int .u32 md1)).set5 (.int .u32 pr1)).set6 (.int .u32 ag1)).set7 (.int .u32 ai1)).set8 (.slice Ac nc cc))
 case rest =>
 clear S c0 c1 c2 c3 c4 c5 c6 c7 c8 ff
 have S:=hcut
 clear hcut
 obtain ⟨c0,c1,c2,c3,c4,c5,c6,c7,c8⟩:=S.out.b1.cells
 have ff:=S.out.b1.free
 go_upto_region 3 with (go_at_call 162;(refine (CN.out _ S.out.low).mono ?_;rintro e y ⟨vq,rfl,hq,hy⟩;obtain ⟨Aq,cq,rfl⟩:=hq.form;generalize (normS p).length=nq at hq;have HN:=hid (show w.heap.size+1+1≤_ from S.out.b2.lt);have HQ:=hid (hq.lower HN.out HN.out);clear HN;replace S:=hid (S.out.below hy);clear hq ff c0 c1 c2 c3 c4 c5 c6 c7 c8;have ff:=S.out.b1.free;obtain ⟨-,-,c2,-,-,-,-,-,-⟩:=S.out.b1.cells;replace S:=hid (S.out.set2 (.slice Aq nq cq));obtain ⟨-,-,-,-,-,-,-,-,c8⟩:=S.out.b1.cells;clear hy))
 go_upto_region 4 with (go_at_call 163;(refine (CS.out _ S.out.low).mono ?_;rintro e z ⟨vr,rfl,hr,hn,hz⟩;obtain ⟨Ar,cr,rfl,-,-,-,-⟩:=hr.open_;generalize (setOf cm).length=nr at hr hn;have HN:=hid (show w.heap.size+1+1≤_ from S.out.b2.lt);have HR:=hid (And.intro hr (hn.lower HN.out));have HQ2:=hid ((segs_off HQ.out (off_set _ (by omega)) (by simp)).keep hz);replace S:=hid (S.out.below hz);clear hr hn HN HQ ff c2 c8;have ff:=S.out.b1.free;obtain ⟨-,-,-,-,-,-,-,-,k8⟩:=S.out.b1.cells;replace S:=hid (S.out.set8 (.slice Ar nr cr));obtain ⟨c0,c1,c2,c3,c4,c5,c6,c7,c8⟩:=S.out.b1.cells;obtain ⟨g0,g1,g2,g3,g4,g5,g6,g7,g8⟩:=S.out.b2.cells;have fg:=S.out.b2.free;clear hz))
 have B9:=(((((((((S.out.b2.set0 (.int .i64 hb)).set1 (.int .i64 ob)).set2 (.slice Aq nq cq)).set3 (.int .u32 hp1)).set4 (.int .u32 md1)).set5 (.int .u32 pr1)).set6 (.int .u32 ag1)).set7 (.int .u32 ai1)).set8 (.slice Ar nr cr))
 obtain ⟨r0,r1,r2,r3,r4,r5,r6,r7,r8⟩:=B9.cells
 go_wp2
 (try simp only [Exit.inBlock,Exit.then])
 refine bodyPost_ret (v:=.agg #[.int .i64 hb,.int .i64 ob,.slice Aq nq cq,.int .u32 hp1,.int .u32 md1,.int .u32 pr1,.int .u32 ag1,.int .u32 ai1,.slice Ar nr cr]) (by simp [results,Tryz.results139,go_sem,r0,r1,r2,r3,r4,r5,r6,r7,r8]) rfl ?_
 have hlo:=nine_low S.out.low (w.heap.size+1) (by omega) (.int .i64 hb) (.int .i64 ob) (.slice Aq nq cq) (.int .u32 hp1) (.int .u32 md1) (.int .u32 pr1) (.int .u32 ag1) (.int .u32 ai1) (.slice Ar nr cr)
 have hk:=nine_off (z.setCell ⟨w.heap.size,8,none⟩ (.slice Ar nr cr)) (w.heap.size+1) (.int .i64 hb) (.int .i64 ob) (.slice Aq nq cq) (.int .u32 hp1) (.int .u32 md1) (.int .u32 pr1) (.int .u32 ag1) (.int .u32 ai1) (.slice Ar nr cr)
 have hk1:∀ k,w.heap.size+1+1≤k→_:=fun k h=>(hk.1 k (by omega)).trans (off_set (n:=w.heap.size+1+1) (.slice Ar nr cr) (by omega) k h)
 have hsz:z.heap.size≤_:=Nat.le_trans (by simp) hk.2
 refine ⟨_,_,rfl,?_,?_,?_,hlo⟩
 ·exact OwnSegsF.lower (segs_off HQ2.out hk1 hsz) (by omega) (by omega)
 ·exact u32_off HR.out.1 HR.out.2 hk1 hsz
 ·exact HR.out.2.lower (by omega)
theorem pnormA_any (v:Value) (a:At) (w:World) (hv:Attrs w v a) (hbk:bulk a.path≤40000) (hfit:FitS 4999 a.path) (hcl:a.comms.length<5000) :
  Calls Tryz.prog 139 #[v] w (fun e w'=>∃ v',e=.returned v'∧AtF w.heap.size w' v' (normA a)∧Below w.heap.size w w'):=by
 obtain ⟨v',hp,hc⟩:=present_exact v a w hv
 have hokn:=normA_ok hv.1
 obtain ⟨_,vp0,vc0,rfl,-,-⟩:=hv
 have e1:normS (presA a).path=(normA a).path:=by unfold presA normA;dsimp only;split <;> rfl
 have e2:setOf (presA a).comms=(normA a).comms:=by unfold presA normA;dsimp only;split <;> rfl
 have b1:bulk (presA a).path≤40000:=by unfold presA;dsimp only;split;exact hbk;exact Nat.zero_le _
 have b2:FitS 4999 (presA a).path:=by unfold presA;dsimp only;split;exact hfit;exact fun s hs=>by cases hs
 have b3:(presA a).comms.length<5000:=by unfold presA;dsimp only;split;exact hcl;exact Nat.zero_lt_succ _
 obtain ⟨_,vp,vc,rfl,hP,hC⟩:=hp
 obtain ⟨Ap,cp,rfl,-,-⟩:=hP.form
 obtain ⟨Ac,cc,rfl,-,-,-,-⟩:=hC.open_
 have CN:=hid (fun W (h:Below w.heap.size w W)=>Seg.pnorm_any _ (presA a).path W (hP.keep h) b1 b2)
 have CS:=hid (fun W (h:Below w.heap.size w W)=>set_fresh _ (presA a).comms W (hC.keep h) b3)
 refine (pnorm_in a.has a.origin (presA a).has (presA a).origin vp0 vc0 a.hop a.med a.pref a.aas a.aid (presA a).hop (presA a).med (presA a).pref (presA a).aas (presA a).aid (presA a).path.length cp (presA a).comms.length cc Ap Ac (presA a).path (presA a).comms w (hid hc) CN CS).mono ?_
 rintro e w' ⟨vq,vr,rfl,h1,h2,h3,h4⟩
 refine ⟨_,rfl,⟨hokn,vq,vr,rfl,?_,?_,h3⟩,h4⟩
 ·rw [← e1];exact h1
 ·rw [← e2];exact h2
end Att
namespace Upd
open Go.RowKit Mem Segm Oct Att Seg PR
def UpdF (n:Nat) (W:World) (v:Value) (u:Up):Prop:=∃ Ag cg vp vc Ah ch,v=uV u.at_ (.slice Ag u.gone.length cg) vp vc (.slice Ah u.here.length ch)∧W.ownsRow n 67 2 (.slice Ag u.gone.length cg) u.gone.length (pcells u.gone)∧Oks u.gone ∧
 (u.at_.ok∧OwnSegsF 108 n n W vp u.at_.path∧U32s W vc u.at_.comms∧NewAt n vc)∧W.ownsRow n 67 2 (.slice Ah u.here.length ch) u.here.length (pcells u.here)∧Oks u.here
section
variable {n m:Nat} {W W':World} {v:Value} {u:Up}
theorem UpdF.upds (h:UpdF n W v u):Upds W v u:=by
 obtain ⟨Ag,cg,vp,vc,Ah,ch,h1,h2,h3,⟨h4,h5,h6,-⟩,h7,h8⟩:=h
 exact ⟨_,vp,vc,_,h1,Pfxs.of_own h2 h3,⟨h4,vp,vc,rfl,h5.segs,h6⟩,Pfxs.of_own h7 h8⟩
theorem UpdF.off (h:UpdF n W v u) (hk:∀ k,n≤k→W'.heap[k]?=W.heap[k]?) (hs:W.heap.size≤W'.heap.size):UpdF n W' v u:=by
 obtain ⟨Ag,cg,vp,vc,Ah,ch,h1,h2,h3,⟨h4,h5,h6,h9⟩,h7,h8⟩:=h
 exact ⟨Ag,cg,vp,vc,Ah,ch,h1,own_off h2 hk,h3,⟨h4,segs_off h5 hk hs,u32_off h6 h9 hk hs,h9⟩,own_off h7 hk,h8⟩
theorem UpdF.keep (h:UpdF n W v u) (hb:Below W.heap.size W W'):UpdF n W' v u:=by
 obtain ⟨Ag,cg,vp,vc,Ah,ch,h1,h2,h3,⟨h4,h5,h6,h9⟩,h7,h8⟩:=h
 exact ⟨Ag,cg,vp,vc,Ah,ch,h1,own_keep h2 hb,h3,⟨h4,h5.keep hb,h6.keep hb,h9⟩,own_keep h7 hb,h8⟩
theorem UpdF.lower (h:UpdF n W v u) (hm:m≤n):UpdF m W v u:=by
 obtain ⟨Ag,cg,vp,vc,Ah,ch,h1,h2,h3,⟨h4,h5,h6,h9⟩,h7,h8⟩:=h
 exact ⟨Ag,cg,vp,vc,Ah,ch,h1,own_base h2 hm,h3,⟨h4,h5.lower hm hm,h6,h9.lower hm⟩,own_base h7 hm,h8⟩
theorem updF_zero (n:Nat) (W:World):UpdF n W (uV zeroA (.slice none 0 0) (.slice none 0 0) (.slice none 0 0) (.slice none 0 0)) zeroU :=
 ⟨none,0,_,_,none,0,rfl,World.ownsRow_nil _ _ _ _,oks_nil,⟨zeroA_ok,nil_segsF _ _ _,U32s.nil W,NewAt.nil _⟩,World.ownsRow_nil _ _ _ _,oks_nil⟩
end
structure Box11 (W:World) (B:Nat) (t:TypeId) (x0 x1 x2 x3 x4 x5 x6 x7 x8 x9 x10:Value):Prop where
 blk:W.heap[B]?=some (.cells #[x0,x1,x2,x3,x4,x5,x6,x7,x8,x9,x10] t (0,0))
section
variable {W:World} {B:Nat} {t:TypeId} {x0 x1 x2 x3 x4 x5 x6 x7 x8 x9 x10:Value}
theorem Box11.set0 (h:Box11 W B t x0 x1 x2 x3 x4 x5 x6 x7 x8 x9 x10) (v:Value):Box11 (W.setCell ⟨B,0,none⟩ v) B t v x1 x2 x3 x4 x5 x6 x7 x8 x9 x10:=⟨by rw [Go.Joins.block_setCell h.blk];rfl⟩
theorem Box11.set1 (h:Box11 W B t x0 x1 x2 x3 x4 x5 x6 x7 x8 x9 x10) (v:Value):Box11 (W.setCell ⟨B,1,none⟩ v) B t x0 v x2 x3 x4 x5 x6 x7 x8 x9 x10:=⟨by rw [Go.Joins.block_setCell h.blk];rfl⟩
theorem Box11.set2 (h:Box11 W B t x0 x1 x2 x3 x4 x5 x6 x7 x8 x9 x10) (v:Value):Box11 (W.setCell ⟨B,2,none⟩ v) B t x0 x1 v x3 x4 x5 x6 x7 x8 x9 x10:=⟨by rw [Go.Joins.block_setCell h.blk];rfl⟩
theorem Box11.set3 (h:Box11 W B t x0 x1 x2 x3 x4 x5 x6 x7 x8 x9 x10) (v:Value):Box11 (W.setCell ⟨B,3,none⟩ v) B t x0 x1 x2 v x4 x5 x6 x7 x8 x9 x10:=⟨by rw [Go.Joins.block_setCell h.blk];rfl⟩
theorem Box11.set4 (h:Box11 W B t x0 x1 x2 x3 x4 x5 x6 x7 x8 x9 x10) (v:Value):Box11 (W.setCell ⟨B,4,none⟩ v) B t x0 x1 x2 x3 v x5 x6 x7 x8 x9 x10:=⟨by rw [Go.Joins.block_setCell h.blk];rfl⟩
theorem Box11.set5 (h:Box11 W B t x0 x1 x2 x3 x4 x5 x6 x7 x8 x9 x10) (v:Value):Box11 (W.setCell ⟨B,5,none⟩ v) B t x0 x1 x2 x3 x4 v x6 x7 x8 x9 x10:=⟨by rw [Go.Joins.block_setCell h.blk];rfl⟩
theorem Box11.set6 (h:Box11 W B t x0 x1 x2 x3 x4 x5 x6 x7 x8 x9 x10) (v:Value):Box11 (W.setCell ⟨B,6,none⟩ v) B t x0 x1 x2 x3 x4 x5 v x7 x8 x9 x10:=⟨by rw [Go.Joins.block_setCell h.blk];rfl⟩
theorem Box11.set7 (h:Box11 W B t x0 x1 x2 x3 x4 x5 x6 x7 x8 x9 x10) (v:Value):Box11 (W.setCell ⟨B,7,none⟩ v) B t x0 x1 x2 x3 x4 x5 x6 v x8 x9 x10:=⟨by rw [Go.Joins.block_setCell h.blk];rfl⟩
theorem Box11.set8 (h:Box11 W B t x0 x1 x2 x3 x4 x5 x6 x7 x8 x9 x10) (v:Value):Box11 (W.setCell ⟨B,8,none⟩ v) B t x0 x1 x2 x3 x4 x5 x6 x7 v x9 x10:=⟨by rw [Go.Joins.block_setCell h.blk];rfl⟩
theorem Box11.set9 (h:Box11 W B t x0 x1 x2 x3 x4 x5 x6 x7 x8 x9 x10) (v:Value):Box11 (W.setCell ⟨B,9,none⟩ v) B t x0 x1 x2 x3 x4 x5 x6 x7 x8 v x10:=⟨by rw [Go.Joins.block_setCell h.blk];rfl⟩
theorem Box11.set10 (h:Box11 W B t x0 x1 x2 x3 x4 x5 x6 x7 x8 x9 x10) (v:Value):Box11 (W.setCell ⟨B,10,none⟩ v) B t x0 x1 x2 x3 x4 x5 x6 x7 x8 x9 v:=⟨by rw [Go.Joins.block_setCell h.blk];rfl⟩
end
def Off (B:Nat) (W W':World):Prop:=(∀ k,k≠B→W'.heap[k]?=W.heap[k]?)∧W.heap.size≤W'.heap.size
theorem Off.refl (B:Nat) (W:World):Off B W W:=⟨fun _ _=>rfl,Nat.le_refl _⟩
theorem Off.set {B:Nat} {W W':World} (h:Off B W W') (i:Nat) (u:Value):Off B W (W'.setCell ⟨B,i,none⟩ u) :=
 ⟨fun k hk=>(Go.RowKit.Below.heap_setCell _ _ _ _ (show k≠(⟨B,i,none⟩:Addr).block from hk)).trans (h.1 k hk),by have:=h.2;simpa using this⟩
section
variable {W w:World} {B n:Nat} {t:TypeId} {a b:At} {vg vp vc vh yg yp yc yh:Value}
end
end Upd
namespace Upd
open Go.RowKit Mem Segm Oct Att Seg PR
end Upd
namespace Msg
open Go.RowKit Mem Segm Oct Att Seg PR Opn Upd Ntc Frm
open Go.Lib (hid)
theorem parts_u {O U N U2:List Value} (h:Parts O U N) {n:Nat} {W:World} {u:Up} (hu:UpdF n W (.agg U2.toArray) u):Parts O U2 N:=by
 obtain ⟨Ag,cg,vp,vc,Ah,ch,e,-,-,⟨-,h5,h6,-⟩,-,-⟩:=hu
 obtain ⟨Ap,cp,rfl,-,-⟩:=h5.segs.form
 obtain ⟨Ac,cc,rfl,-,-,-,-⟩:=h6.open_
 obtain rfl:=agg_inj (B:=[_,_,_,_,_,_,_,_,_,_,_]) e
 exact ⟨h.lo,rfl,h.ln,h.oo,by simp [Value.oneCell'],h.on,fun v hv=>hv.elim (fun k=>h.n8 v (.inl k)) (fun k=>k.elim (no8_of (by rfl) v) (fun k=>h.n8 v (.inr (.inr k))))⟩
theorem updF_agg {n:Nat} {W:World} {v:Value} {u:Up} (h:UpdF n W v u):∃ U:List Value,v=.agg U.toArray:=by
 obtain ⟨Ag,cg,vp,vc,Ah,ch,e,-⟩:=h
 exact ⟨[_,_,_,_,_,_,_,_,_,_,_],e⟩
end Msg
namespace Att
open Go.RowKit Mem Segm Oct Nums
def leftN (l:List Nat) (bad:Bool):Nat→List Nat × Bool
 | 0=>(l,bad)
 | k+1=>(rest (leftN l bad k).1 (leftN l bad k).2 4,fails (leftN l bad k).1 (leftN l bad k).2 4)
def tookN (l:List Nat) (bad:Bool):Nat→List Nat
 | 0=>[]
 | k+1=>tookN l bad k ++ [val (got (leftN l bad k).1 (leftN l bad k).2 4)]
theorem tookN_len (l:List Nat) (bad:Bool):∀ k,(tookN l bad k).length=k
 | 0=>rfl
 | k+1=>by unfold tookN;rw [List.length_append,tookN_len l bad k];rfl
theorem leftN_small {l:List Nat} {bad:Bool} (h:Small l):∀ k,Small (leftN l bad k).1
 | 0=>h
 | k+1=>by
  unfold leftN rest
  split
  ·exact small_nil
  ·exact (leftN_small h k).drop _
theorem took_good {l:List Nat}:∀ k:Nat,4*k≤l.length→leftN l false k=(l.drop (4*k),false)∧tookN l false k=quadsN l k
 | 0,_=>by simp [leftN,tookN,quadsN]
 | k+1,h=>by
  obtain ⟨h1,h2⟩:=took_good (l:=l) k (by omega)
  have hf:fails (l.drop (4*k)) false 4=false:=by
   simp only [fails,Bool.false_or,Bool.or_eq_false_iff,decide_eq_false_iff_not,List.length_drop]
   omega
  unfold leftN tookN
  rw [h1,h2,quadsN_succ]
  refine ⟨?_,?_⟩
  ·show (rest _ false 4,fails _ false 4)=_
   rw [hf]
   unfold rest
   rw [hf,if_neg (by decide),List.drop_drop]
   congr 2
  ·show quadsN l k ++ [val (got _ false 4)]=_
   unfold got
   rw [hf,if_neg (by decide)]
   rfl
theorem left_bad {l:List Nat}:∀ k:Nat,(leftN l true k).2=true
 | 0=>rfl
 | k+1=>by
  unfold leftN
  show fails _ _ 4=true
  rw [left_bad (l:=l) k]
  simp [fails]
theorem took_bad {l:List Nat}:∀ k:Nat,l.length<4*k→(leftN l false k).2=true
 | 0,h=>by omega
 | k+1,h=>by
  by_cases hk:4*k≤l.length
  ·obtain ⟨h1,h2⟩:=took_good (l:=l) k hk
   unfold leftN
   rw [h1]
   show fails _ false 4=true
   simp only [fails,Bool.false_or,Bool.or_eq_true,decide_eq_true_eq,List.length_drop]
   omega
  ·have:=took_bad (l:=l) k (by omega)
   unfold leftN
   show fails _ _ 4=true
   rw [this]
   simp [fails]
def TakeN (base n:Nat) (v:Value) (F:Nat→Prop) (l:List Nat) (bad:Bool) (k:Nat) (w:World) (e:Ending) (w':World):Prop :=
 ∃ A c,e=.returned (.slice A k c)∧U32s w' (.slice A k c) (tookN l bad k)∧NewAt w.heap.size (.slice A k c)∧R w' base n v (leftN l bad k).1 (leftN l bad k).2 F∧Only F w w'
structure TkSt (base n:Nat) (v:Value) (F:Nat→Prop) (w0:World) (l:List Nat) (bad:Bool) (u:Value) (m:Nat) (xs:List Nat) (W:World):Prop where
 rd:R W base n v l bad F
 own:W.ownsRow w0.heap.size 22 1 u m (xs.map fun n:Nat=>Value.int .u32 n)
 on:Only F w0 W
section
variable {base n:Nat} {v u:Value} {F:Nat→Prop} {w0 W W2:World} {l l2:List Nat} {bad bad2:Bool} {m:Nat} {xs:List Nat}
theorem TkSt.read (h:TkSt base n v F w0 l bad u m xs W) (hn:n≤w0.heap.size) (hr:R W2 base n v l2 bad2 F) (ho:Only F W W2):TkSt base n v F w0 l2 bad2 u m xs W2:=by
 refine ⟨hr,own_same h.own fun g hg=>ho.block g (h.own.lt g hg).2 (fun hf=>?_),h.on.trans ho⟩
 have h1:=(h.own.lt g hg).1
 have h2:=(hr.low g hf).2
 omega
theorem TkSt.below (h:TkSt base n v F w0 l bad u m xs W) (hb:Below W.heap.size W W2):TkSt base n v F w0 l bad u m xs W2 :=
 ⟨h.rd.below hb,own_keep h.own hb,h.on.trans (Only.of hb)⟩
end
theorem take_n (v:Value) (base n:Nat) (l:List Nat) (bad:Bool) (F:Nat→Prop) (k:Nat) (w:World) (hs:Small l) (hR:R w base n v l bad F) (hn:n≤w.heap.size) (hk:k≤100000) :
  Calls Tryz.prog 173 #[v,.int .i64 k] w (TakeN base n v F l bad k w):=by
 obtain ⟨ie,E⟩:=elem32
 have HS:=hid hs
 have HN:=hid hn
 have ST0:=hid (show TkSt base n v F w l bad (.slice none 0 0) 0 [] w from ⟨hR,World.ownsRow_nil _ _ _ _,Only.refl _ _⟩)
 have CU:=hid (fun (l:List Nat) (bad:Bool) (W:World) (hs:Small l) (h:R W base n v l bad F)=>u32_any v base n l bad F W hs h)
 clear hs hR hn
 go_enter Tryz.func173,Tryz.ntmps173
 go_wp2
 go_loopw [5,7] (fun v5 v7 wx=>∃ (j:Nat) (A:Option Addr) (c:Nat),j≤k∧v7=.int .i64 j∧v5=.slice A j c∧Hid (TkSt base n v F w (leftN l bad j).1 (leftN l bad j).2 (.slice A j c) j (tookN l bad j) wx)) (fun _ v7 _=>k - (intOf v7).toNat)
 case atStart=>exact ⟨0,none,0,Nat.zero_le _,rfl,rfl,ST0⟩
 case round =>
  obtain ⟨j,A,c,hj,rfl,rfl,ST⟩:=hrel
  by_cases hlt:j<k
  ·have z1:(j:Int)<(k:Int):=by omega
   have CUJ:=hid (CU.out _ _ _ (leftN_small HS.out j) ST.out.rd)
   have HV:=hid (valg_lt (l:=(leftN l bad j).1) (bad:=(leftN l bad j).2) (k:=4) (leftN_small HS.out j) (by decide))
   have HL:=hid (show leftN l bad (j+1)=(rest (leftN l bad j).1 (leftN l bad j).2 4,fails (leftN l bad j).1 (leftN l bad j).2 4) from rfl)
   have HT:=hid (show tookN l bad (j+1)=tookN l bad j ++ [val (got (leftN l bad j).1 (leftN l bad j).2 4)] from rfl)
   rw [show ((4:Nat):Int)=4 from rfl] at HV
   generalize val (got (leftN l bad j).1 (leftN l bad j).2 4)=y at CUJ HV HT
   go_wp2_with (first
    | (go_at_call 84;(refine (CUJ.out).mono ?_;rintro e w6 ⟨rfl,hR6,ho6⟩;have S6:=hid (ST.out.read HN.out hR6 ho6);have S7:=hid (S6.out.below ((Below.refl _ w6).alloc (Nat.le_refl _) (.cells #[.int .u32 y] 22)));have R7:=hid (Row.one w6 (.int .u32 (y:Nat)) 22);have L7:=hid (show w.heap.size≤(w6.alloc (.cells #[.int .u32 (y:Nat)] 22)).heap.size from S7.out.on.size);clear hR6 ho6))
    | (at_builtin;(refine wpList_append_row rfl (.tmp 9) (.tmp 12) rfl E w.heap.size _ j ((tookN l bad j).map fun n:Nat=>Value.int .u32 n) rfl S7.out.own _ 1 [.int .u32 (y:Nat)] rfl R7.out (by intro u hu;rw [List.mem_singleton.1 hu];rfl) (by unfold maxLen;omega) (by omega) L7.out (j+1) rfl ?_;intro A4 c4 w8 hown4 hg4 hat4 hb4;have S8:=hid (And.intro hown4 hb4);clear hown4 hg4 hat4 hb4)))
   go_roundw
   case rel =>
    refine ⟨j+1,A4,c4,hlt,by go_num,by first | rfl | go_num,hid ?_⟩
    rw [HL.out,HT.out]
    exact ⟨S7.out.rd.keep (fun q hq=>S8.out.2.block q (Nat.lt_of_lt_of_le hq HN.out)) S8.out.2.size,by rw [List.map_append];exact S8.out.1,⟨S8.out.2.os.trans S7.out.on.os,S8.out.2.tape.trans S7.out.on.tape,S8.out.2.output.trans S7.out.on.output,Nat.le_trans S7.out.on.size S8.out.2.size,fun q hq hf=>(S8.out.2.block q hq).trans (S7.out.on.block q hq hf)⟩⟩
   case measure=>simp [intOf];omega
  ·obtain rfl:j=k:=by omega
   have z1:decide ((j:Int)<(j:Int))=false:=by simp
   go_wp2
   go_ret
   refine ⟨A,c,rfl,U32s.of_own (by have h:=ST.out.own;rw [tookN_len];exact h) ?_,?_,ST.out.rd,ST.out.on⟩
   ·intro y hy
    have:∀ j,∀ y∈tookN l bad j,y<4294967296:=fun j=>by
     induction j with
     | zero=>intro y hy;cases hy
     | succ j ih =>
      intro y hy
      unfold tookN at hy
      rcases List.mem_append.1 hy with h | h
      ·exact ih y h
      ·rw [List.mem_singleton.1 h];exact valg_lt (k:=4) (leftN_small HS.out j) (by decide)
    exact this _ y hy
   ·intro b off m c' e hm
    injection e with e1 e2 e3
    subst e1
    exact (ST.out.own.lt b rfl).1
end Att
namespace Att
open Go.RowKit Mem Segm Oct
def nxF (l:List Nat):Nat:=(Rd.mk l false).num 1
def nxK (l:List Nat):Nat:=((Rd.mk l false).go 1).num 1
def nxW (l:List Nat):Int:=if nxF l / 16 % 2=1 then 2 else 1
def nxN (l:List Nat):Nat:=(((Rd.mk l false).go 1).go 1).num (nxW l)
def nx3 (l:List Nat):Rd:=(((Rd.mk l false).go 1).go 1).go (nxW l)
def nxV (l:List Nat):List Nat:=got (nx3 l).l (nx3 l).b (nxN l:Nat)
def nxR (l:List Nat):Rd:=(nx3 l).go (nxN l:Nat)
structure NxSt (base n:Nat) (v:Value) (F:Nat→Prop) (w0:World) (x0 x1 x2:Value) (x:Rd) (W:World):Prop where
 b2:Box3 W w0.heap.size 161 (.int .i64 0) (.int .i64 0) (.slice none 0 0)
 b3:Box3 W (w0.heap.size+1) 161 x0 x1 x2
 rd:R W base n v x.l x.b F
 on:Only F w0 W
section
variable {base n:Nat} {v x0 x1 x2:Value} {F:Nat→Prop} {w0 W W2:World} {x y:Rd}
theorem NxSt.read (h:NxSt base n v F w0 x0 x1 x2 x W) (hn:n≤w0.heap.size) (hr:R W2 base n v y.l y.b F) (ho:Only F W W2):NxSt base n v F w0 x0 x1 x2 y W2:=by
 have hF:∀ q,F q→q<n:=fun q hq=>(h.rd.low q hq).2
 exact ⟨⟨(ho.block _ h.b2.lt (fun hf=>by have:=hF _ hf;omega)).trans h.b2.blk⟩,⟨(ho.block _ h.b3.lt (fun hf=>by have:=hF _ hf;omega)).trans h.b3.blk⟩,hr,h.on.trans ho⟩
theorem NxSt.farset (h:NxSt base n v F w0 x0 x1 x2 x W) (hn:n≤w0.heap.size) (i:Nat) (u:Value):R (W.setCell ⟨w0.heap.size+1,i,none⟩ u) base n v x.l x.b F∧Only F w0 (W.setCell ⟨w0.heap.size+1,i,none⟩ u):=by
 refine ⟨h.rd.keep (fun k hk=>Go.RowKit.Below.heap_setCell _ _ _ _ (by show k≠w0.heap.size+1;omega)) (by simp),⟨h.on.os,h.on.tape,h.on.output,by have:=h.on.size;simp;omega,fun k hk hf=>(Go.RowKit.Below.heap_setCell _ _ _ _ (by show k≠w0.heap.size+1;omega)).trans (h.on.block k hk hf)⟩⟩
theorem NxSt.set0 (h:NxSt base n v F w0 x0 x1 x2 x W) (hn:n≤w0.heap.size) (u:Value):NxSt base n v F w0 u x1 x2 x (W.setCell ⟨w0.heap.size+1,0,none⟩ u) :=
 ⟨h.b2.far (by omega) u,h.b3.set0 u,(h.farset hn 0 u).1,(h.farset hn 0 u).2⟩
theorem NxSt.set1 (h:NxSt base n v F w0 x0 x1 x2 x W) (hn:n≤w0.heap.size) (u:Value):NxSt base n v F w0 x0 u x2 x (W.setCell ⟨w0.heap.size+1,1,none⟩ u) :=
 ⟨h.b2.far (by omega) u,h.b3.set1 u,(h.farset hn 1 u).1,(h.farset hn 1 u).2⟩
theorem NxSt.set2 (h:NxSt base n v F w0 x0 x1 x2 x W) (hn:n≤w0.heap.size) (u:Value):NxSt base n v F w0 x0 x1 u x (W.setCell ⟨w0.heap.size+1,2,none⟩ u) :=
 ⟨h.b2.far (by omega) u,h.b3.set2 u,(h.farset hn 2 u).1,(h.farset hn 2 u).2⟩
end
theorem nx_start {base n:Nat} {v:Value} {F:Nat→Prop} {w:World} {l:List Nat} (hR:R w base n v l false F):NxSt base n v F w (.int .i64 0) (.int .i64 0) (.slice none 0 0) ⟨l,false⟩ ((w.alloc (.cells #[.int .i64 0,.int .i64 0,.slice none 0 0] 161)).alloc (.cells #[.int .i64 0,.int .i64 0,.slice none 0 0] 161)):=by
 have h1:=Box3.new w 161 (.int .i64 0) (.int .i64 0) (.slice none 0 0)
 have b1:Below w.heap.size w (w.alloc (.cells #[.int .i64 0,.int .i64 0,.slice none 0 0] 161)):=(Below.refl _ w).alloc (Nat.le_refl _) _
 have e1:(w.alloc (.cells #[.int .i64 0,.int .i64 0,.slice none 0 0] 161)).heap.size=w.heap.size+1:=by simp
 have h2:=Box3.new (w.alloc (.cells #[.int .i64 0,.int .i64 0,.slice none 0 0] 161)) 161 (.int .i64 0) (.int .i64 0) (.slice none 0 0)
 rw [e1] at h2
 have b2:=b1.alloc b1.size (.cells #[.int .i64 0,.int .i64 0,.slice none 0 0] 161)
 exact ⟨h1.keep ((Below.refl _ _).alloc (Nat.le_refl _) _),h2,hR.below b2,Only.of b2⟩
def NextF (base n:Nat) (v:Value) (F:Nat→Prop) (l:List Nat) (w:World) (e:Ending) (w':World):Prop :=
 ∃ A c,e=.returned (.agg #[.int .i64 (nxF l:Nat),.int .i64 (nxK l:Nat),.slice A (nxV l).length c])∧U8s w' (.slice A (nxV l).length c) (nxV l)∧R w' base n v (nxR l).l (nxR l).b F∧Only F w w'
theorem next_any (v:Value) (base n:Nat) (l:List Nat) (F:Nat→Prop) (w:World) (hs:Small l) (hR:R w base n v l false F) (hn:n≤w.heap.size):Calls Tryz.prog 136 #[v] w (NextF base n v F l w):=by
 have S0:=hid (nx_start hR)
 have HN:=hid hn
 have HS1:=hid (Rd.small (x:=⟨l,false⟩) hs 1)
 have HS2:=hid (Rd.small HS1.out 1)
 have HS0:=hid hs
 have CU:=hid (fun (x:Rd) (W:World) (hs:Small x.l) (h:R W base n v x.l x.b F)=>show Calls Tryz.prog 82 #[v] W (fun e w'=>e=.returned (.int .i64 (x.num 1:Nat))∧R w' base n v (x.go 1).l (x.go 1).b F∧Only F W w') from u8_any v base n x.l x.b F W hs h)
 have CV:=hid (fun (x:Rd) (W:World) (hs:Small x.l) (h:R W base n v x.l x.b F)=>show Calls Tryz.prog 83 #[v] W (fun e w'=>e=.returned (.int .i64 (x.num 2:Nat))∧R w' base n v (x.go 2).l (x.go 2).b F∧Only F W w') from u16_any v base n x.l x.b F W hs h)
 have CT:=hid (fun (x:Rd) (k:Nat) (hk:k<65536) (W:World) (h:R W base n v x.l x.b F)=>show Calls Tryz.prog 90 #[v,.int .i64 k] W (TakeF base n v F x.l x.b k W) from take_any v base n x.l x.b F k (by simp [Lit.wf,IntKind.min,IntKind.max,IntKind.signed,IntKind.bits];omega) W h)
 have hf:nxF l<256:=num_lt (x:=⟨l,false⟩) hs 1
 have HNF:=hid (show (Rd.mk l false).num 1=nxF l from rfl)
 have HNK:=hid (show ((Rd.mk l false).go 1).num 1=nxK l from rfl)
 clear hs hR hn
 by_cases hl:nxF l / 16 % 2=1
 focus
  have n16:bits .and .i64 (nxF l:Int) 16=16:=by rw [byte16 _ hf,if_pos hl]
  have ew:nxW l=2:=by unfold nxW;rw [if_pos hl]
  have hN:nxN l<65536:=by unfold nxN;rw [ew];exact num_lt HS2.out 2
  have HV:=hid (show nxV l=got (nx3 l).l (nx3 l).b (nxN l:Nat)∧nxR l=(nx3 l).go (nxN l:Nat) from ⟨rfl,rfl⟩)
  have H3:=hid (show nx3 l=(((Rd.mk l false).go 1).go 1).go 2∧(((Rd.mk l false).go 1).go 1).num 2=nxN l from by unfold nx3 nxN;rw [ew];exact ⟨rfl,rfl⟩)
  have CTN:=hid (CT.out (nx3 l) (nxN l) hN)
  unfold NextF
  generalize nxF l=f at n16 HNF ⊢
  generalize nxK l=k at HNK ⊢
  generalize nxN l=N at CTN H3 HV
  generalize nxR l=RR at HV ⊢
  generalize nxV l=VV at HV ⊢
  generalize nx3 l=R3 at CTN H3 HV
  clear hl ew hN hf
  have CU1:=hid (CU.out ⟨l,false⟩)
  have CU2:=hid (CU.out ((Rd.mk l false).go 1))
  have CV3:=hid (CV.out (((Rd.mk l false).go 1).go 1))
  rw [HNF.out] at CU1
  rw [HNK.out] at CU2
  rw [H3.out.2,← H3.out.1] at CV3
  clear CU CV CT HNF HNK H3
  obtain ⟨c0,c1,c2⟩:=S0.out.b3.cells
  have ff:=S0.out.b3.free
  go_enter Tryz.func136,Tryz.ntmps136
  go_wp2_with (first
   | (have h:=S3.out;go_at_call 90;(refine (CTN.out _ h.rd).mono ?_;rintro e z ⟨A,c,rfl,hU,hR,ho⟩;have HU:=hid hU;have S:=hid (h.read (y:=R3.go N) HN.out hR ho);clear h hU hR ho S3 c0 c1 c2 ff;obtain ⟨c0,c1,c2⟩:=S.out.b3.cells;have HZ:=hid S.out.b3;have ff:=S.out.b3.free;have S4:=hid (S.out.set2 HN.out (.slice A (got R3.l R3.b N).length c));clear S;obtain ⟨d0,d1,d2⟩:=S4.out.b3.cells;obtain ⟨e0,e1,e2⟩:=S4.out.b2.cells;have fe:=S4.out.b2.free))
   | (have h:=S2.out;go_at_call 83;(refine (CV3.out _ HS2.out h.rd).mono ?_;rintro e z ⟨rfl,hR,ho⟩;have S3:=hid (h.read HN.out hR ho);clear h hR ho S2 c0 c1 c2 ff;obtain ⟨c0,c1,c2⟩:=S3.out.b3.cells;have ff:=S3.out.b3.free))
   | (have h:=S1.out;go_at_call 82;(refine (CU2.out _ HS1.out h.rd).mono ?_;rintro e z ⟨rfl,hR,ho⟩;have S:=hid (h.read HN.out hR ho);clear h hR ho S1 c0 c1 c2 ff;obtain ⟨c0,c1,c2⟩:=S.out.b3.cells;have ff:=S.out.b3.free;have S2:=hid (S.out.set1 HN.out (.int .i64 k));clear S))
   | (have h:=S0.out;go_at_call 82;(refine (CU1.out _ HS0.out h.rd).mono ?_;rintro e z ⟨rfl,hR,ho⟩;have S:=hid (h.read HN.out hR ho);clear h hR ho S0 c0 c1 c2 ff;obtain ⟨c0,c1,c2⟩:=S.out.b3.cells;have ff:=S.out.b3.free;have S1:=hid (S.out.set0 HN.out (.int .i64 f));clear S)))
 rotate_left
 focus
  have n16:bits .and .i64 (nxF l:Int) 16=0:=by rw [byte16 _ hf,if_neg hl]
  have ew:nxW l=1:=by unfold nxW;rw [if_neg hl]
  have hN:nxN l<65536:=by unfold nxN;rw [ew];exact Nat.lt_of_lt_of_le (num_lt HS2.out 1) (by decide)
  have HV:=hid (show nxV l=got (nx3 l).l (nx3 l).b (nxN l:Nat)∧nxR l=(nx3 l).go (nxN l:Nat) from ⟨rfl,rfl⟩)
  have H3:=hid (show nx3 l=(((Rd.mk l false).go 1).go 1).go 1∧(((Rd.mk l false).go 1).go 1).num 1=nxN l from by unfold nx3 nxN;rw [ew];exact ⟨rfl,rfl⟩)
  have CTN:=hid (CT.out (nx3 l) (nxN l) hN)
  unfold NextF
  generalize nxF l=f at n16 HNF ⊢
  generalize nxK l=k at HNK ⊢
  generalize nxN l=N at CTN H3 HV
  generalize nxR l=RR at HV ⊢
  generalize nxV l=VV at HV ⊢
  generalize nx3 l=R3 at CTN H3 HV
  clear hl ew hN hf
  have CU1:=hid (CU.out ⟨l,false⟩)
  have CU2:=hid (CU.out ((Rd.mk l false).go 1))
  have CV3:=hid (CU.out (((Rd.mk l false).go 1).go 1))
  rw [HNF.out] at CU1
  rw [HNK.out] at CU2
  rw [H3.out.2,← H3.out.1] at CV3
  clear CU CV CT HNF HNK H3
  obtain ⟨c0,c1,c2⟩:=S0.out.b3.cells
  have ff:=S0.out.b3.free
  go_enter Tryz.func136,Tryz.ntmps136
  go_wp2_with (first
   | (have h:=S3.out;go_at_call 90;(refine (CTN.out _ h.rd).mono ?_;rintro e z ⟨A,c,rfl,hU,hR,ho⟩;have HU:=hid hU;have S:=hid (h.read (y:=R3.go N) HN.out hR ho);clear h hU hR ho S3 c0 c1 c2 ff;obtain ⟨c0,c1,c2⟩:=S.out.b3.cells;have HZ:=hid S.out.b3;have ff:=S.out.b3.free;have S4:=hid (S.out.set2 HN.out (.slice A (got R3.l R3.b N).length c));clear S;obtain ⟨d0,d1,d2⟩:=S4.out.b3.cells;obtain ⟨e0,e1,e2⟩:=S4.out.b2.cells;have fe:=S4.out.b2.free))
   | (have h:=S2.out;go_at_call 82;(refine (CV3.out _ HS2.out h.rd).mono ?_;rintro e z ⟨rfl,hR,ho⟩;have S3:=hid (h.read HN.out hR ho);clear h hR ho S2 c0 c1 c2 ff;obtain ⟨c0,c1,c2⟩:=S3.out.b3.cells;have ff:=S3.out.b3.free))
   | (have h:=S1.out;go_at_call 82;(refine (CU2.out _ HS1.out h.rd).mono ?_;rintro e z ⟨rfl,hR,ho⟩;have S:=hid (h.read HN.out hR ho);clear h hR ho S1 c0 c1 c2 ff;obtain ⟨c0,c1,c2⟩:=S.out.b3.cells;have ff:=S.out.b3.free;have S2:=hid (S.out.set1 HN.out (.int .i64 k));clear S))
   | (have h:=S0.out;go_at_call 82;(refine (CU1.out _ HS0.out h.rd).mono ?_;rintro e z ⟨rfl,hR,ho⟩;have S:=hid (h.read HN.out hR ho);clear h hR ho S0 c0 c1 c2 ff;obtain ⟨c0,c1,c2⟩:=S.out.b3.cells;have ff:=S.out.b3.free;have S1:=hid (S.out.set0 HN.out (.int .i64 f));clear S)))
 all_goals
  (try simp only [Exit.inBlock,Exit.then])
  obtain ⟨r0,r1,r2⟩:=(S4.out.b2.laid (.int .i64 f) (.int .i64 k) (.slice A (got R3.l R3.b N).length c)).cells
  unfold three at r0 r1 r2
  refine bodyPost_ret (v:=.agg #[.int .i64 f,.int .i64 k,.slice A (got R3.l R3.b N).length c]) (by simp [results,Tryz.results136,go_sem,r0,r1,r2]) rfl ?_
  have U1:U8s (z.setCell ⟨w.heap.size+1,2,none⟩ (.slice A (got R3.l R3.b N).length c)) (.slice A (got R3.l R3.b N).length c) (got R3.l R3.b N):=u8_apart HU.out (HZ.out.no8 (no8_i _) (no8_i _) (no8_s _ _ _)) (fun q hq=>Go.RowKit.Below.heap_setCell _ _ _ _ hq) (by simp)
  have ho:=three_off (z.setCell ⟨w.heap.size+1,2,none⟩ (.slice A (got R3.l R3.b N).length c)) w.heap.size (.int .i64 f) (.int .i64 k) (.slice A (got R3.l R3.b N).length c)
  have U2:=u8_apart U1 (S4.out.b2.no8 (no8_i _) (no8_i _) (no8_s _ _ _)) ho.1 ho.2
  have hrd:R (three (z.setCell ⟨w.heap.size+1,2,none⟩ (.slice A (got R3.l R3.b N).length c)) w.heap.size (.int .i64 f) (.int .i64 k) (.slice A (got R3.l R3.b N).length c)) base n v (R3.go N).l (R3.go N).b F:=S4.out.rd.keep (fun q hq=>ho.1 q (by have:=HN.out;omega)) ho.2
  refine ⟨A,c,?_,?_,?_,⟨S4.out.on.os,S4.out.on.tape,S4.out.on.output,Nat.le_trans S4.out.on.size ho.2,fun q hq hf=>(ho.1 q (by omega)).trans (S4.out.on.block q hq hf)⟩⟩
  ·rw [HV.out.1]
  ·rw [HV.out.1];exact U2
  ·rw [HV.out.2];exact hrd
end Att
namespace Att
open Go.RowKit Mem Segm Oct
theorem next_some {l:List Nat} {x:Item} (h:itemOf l=some x):nxF l=x.f∧nxK l=x.k∧nxV l=x.v∧nxR l=⟨x.r,false⟩:=by
 match l,h with
 | [],h=>simp [itemOf] at h
 | [_],h=>simp [itemOf] at h
 | f :: k :: r,h =>
  unfold itemOf at h
  dsimp only at h
  have eF:nxF (f :: k :: r)=f:=(head_go f (k :: r)).2
  have eK:nxK (f :: k :: r)=k:=by unfold nxK;rw [(head_go f (k :: r)).1];exact (head_go k r).2
  have e2:(((Rd.mk (f :: k :: r) false).go 1).go 1)=⟨r,false⟩:=by rw [(head_go f (k :: r)).1];exact (head_go k r).1
  rw [eF,eK]
  by_cases hl:f / 16 % 2=1
  ·rw [if_pos hl] at h
   have eW:nxW (f :: k :: r)=2:=by unfold nxW;rw [eF,if_pos hl]
   match r,h with
   | [],h=>simp at h
   | [_],h=>simp at h
   | n1 :: n0 :: r2,h =>
    dsimp only at h
    split at h
    ·rename_i hle
     injection h with h
     subst h
     have eN:nxN (f :: k :: n1 :: n0 :: r2)=n1*256+n0:=by unfold nxN;rw [e2,eW];exact (two_go n1 n0 r2).2
     have e3:nx3 (f :: k :: n1 :: n0 :: r2)=⟨r2,false⟩:=by unfold nx3;rw [e2,eW];exact (two_go n1 n0 r2).1
     obtain ⟨g1,g2⟩:=fit_go hle
     refine ⟨rfl,rfl,?_,?_⟩
     ·unfold nxV;rw [e3,eN];exact g2
     ·unfold nxR;rw [e3,eN];exact g1
    ·cases h
  ·rw [if_neg hl] at h
   have eW:nxW (f :: k :: r)=1:=by unfold nxW;rw [eF,if_neg hl]
   match r,h with
   | [],h=>simp at h
   | n0 :: r2,h =>
    dsimp only at h
    split at h
    ·rename_i hle
     injection h with h
     subst h
     have eN:nxN (f :: k :: n0 :: r2)=n0:=by unfold nxN;rw [e2,eW];exact (head_go n0 r2).2
     have e3:nx3 (f :: k :: n0 :: r2)=⟨r2,false⟩:=by unfold nx3;rw [e2,eW];exact (head_go n0 r2).1
     obtain ⟨g1,g2⟩:=fit_go hle
     refine ⟨rfl,rfl,?_,?_⟩
     ·unfold nxV;rw [e3,eN];exact g2
     ·unfold nxR;rw [e3,eN];exact g1
    ·cases h
theorem next_none {l:List Nat} (h:itemOf l=none):(nxR l).b=true:=by
 match l,h with
 | [],_ =>
  have h1:=go_short (l:=[]) (k:=1) (by decide)
  exact go_bad (go_bad (go_bad h1.1 _) _) _
 | [f],_ =>
  have h1:(((Rd.mk [f] false).go 1).go 1).b=true:=by rw [(head_go f []).1];exact (go_short (by decide)).1
  exact go_bad (go_bad h1 _) _
 | f :: k :: r,h =>
  unfold itemOf at h
  dsimp only at h
  have eF:nxF (f :: k :: r)=f:=(head_go f (k :: r)).2
  have e2:(((Rd.mk (f :: k :: r) false).go 1).go 1)=⟨r,false⟩:=by rw [(head_go f (k :: r)).1];exact (head_go k r).1
  by_cases hl:f / 16 % 2=1
  ·rw [if_pos hl] at h
   have eW:nxW (f :: k :: r)=2:=by unfold nxW;rw [eF,if_pos hl]
   match r,h with
   | [],_ =>
    have h3:(nx3 (f :: k :: [])).b=true:=by unfold nx3;rw [e2,eW];exact (go_short (by decide)).1
    exact go_bad h3 _
   | [n1],_ =>
    have h3:(nx3 (f :: k :: [n1])).b=true:=by unfold nx3;rw [e2,eW];exact (go_short (by simp)).1
    exact go_bad h3 _
   | n1 :: n0 :: r2,h =>
    dsimp only at h
    split at h
    ·cases h
    ·rename_i hle
     have eN:nxN (f :: k :: n1 :: n0 :: r2)=n1*256+n0:=by unfold nxN;rw [e2,eW];exact (two_go n1 n0 r2).2
     have e3:nx3 (f :: k :: n1 :: n0 :: r2)=⟨r2,false⟩:=by unfold nx3;rw [e2,eW];exact (two_go n1 n0 r2).1
     unfold nxR;rw [e3,eN]
     exact (go_short (by omega)).1
  ·rw [if_neg hl] at h
   have eW:nxW (f :: k :: r)=1:=by unfold nxW;rw [eF,if_neg hl]
   match r,h with
   | [],_ =>
    have h3:(nx3 (f :: k :: [])).b=true:=by unfold nx3;rw [e2,eW];exact (go_short (by decide)).1
    exact go_bad h3 _
   | n0 :: r2,h =>
    dsimp only at h
    split at h
    ·cases h
    ·rename_i hle
     have eN:nxN (f :: k :: n0 :: r2)=n0:=by unfold nxN;rw [e2,eW];exact (head_go n0 r2).2
     have e3:nx3 (f :: k :: n0 :: r2)=⟨r2,false⟩:=by unfold nx3;rw [e2,eW];exact (head_go n0 r2).1
     unfold nxR;rw [e3,eN]
     exact (go_short (by omega)).1
theorem three_boxes (w:World) (t1 t2 t3:TypeId) (x0 x1 x2 y0 y1 y2 z0 z1 z2:Value) :
  Box3 (((w.alloc (.cells #[x0,x1,x2] t1)).alloc (.cells #[y0,y1,y2] t2)).alloc (.cells #[z0,z1,z2] t3)) w.heap.size t1 x0 x1 x2 ∧
  Box3 (((w.alloc (.cells #[x0,x1,x2] t1)).alloc (.cells #[y0,y1,y2] t2)).alloc (.cells #[z0,z1,z2] t3)) (w.heap.size+1) t2 y0 y1 y2 ∧
  Box3 (((w.alloc (.cells #[x0,x1,x2] t1)).alloc (.cells #[y0,y1,y2] t2)).alloc (.cells #[z0,z1,z2] t3)) (w.heap.size+1+1) t3 z0 z1 z2 ∧
  Below w.heap.size w (((w.alloc (.cells #[x0,x1,x2] t1)).alloc (.cells #[y0,y1,y2] t2)).alloc (.cells #[z0,z1,z2] t3)):=by
 have h1:=Box3.new w t1 x0 x1 x2
 have b1:Below w.heap.size w (w.alloc (.cells #[x0,x1,x2] t1)):=(Below.refl _ w).alloc (Nat.le_refl _) _
 have e1:(w.alloc (.cells #[x0,x1,x2] t1)).heap.size=w.heap.size+1:=by simp
 have h2:=Box3.new (w.alloc (.cells #[x0,x1,x2] t1)) t2 y0 y1 y2
 have k2:Below (w.alloc (.cells #[x0,x1,x2] t1)).heap.size (w.alloc (.cells #[x0,x1,x2] t1)) ((w.alloc (.cells #[x0,x1,x2] t1)).alloc (.cells #[y0,y1,y2] t2)):=(Below.refl _ _).alloc (Nat.le_refl _) _
 have e2:((w.alloc (.cells #[x0,x1,x2] t1)).alloc (.cells #[y0,y1,y2] t2)).heap.size=w.heap.size+1+1:=by simp
 have h3:=Box3.new ((w.alloc (.cells #[x0,x1,x2] t1)).alloc (.cells #[y0,y1,y2] t2)) t3 z0 z1 z2
 have k3:Below ((w.alloc (.cells #[x0,x1,x2] t1)).alloc (.cells #[y0,y1,y2] t2)).heap.size ((w.alloc (.cells #[x0,x1,x2] t1)).alloc (.cells #[y0,y1,y2] t2)) (((w.alloc (.cells #[x0,x1,x2] t1)).alloc (.cells #[y0,y1,y2] t2)).alloc (.cells #[z0,z1,z2] t3)):=(Below.refl _ _).alloc (Nat.le_refl _) _
 rw [e1] at h2
 rw [e2] at h3
 have b2:=b1.trans (k2.mono b1.size)
 exact ⟨(h1.keep k2).keep k3,h2.keep k3,h3,b2.trans (k3.mono b2.size)⟩
theorem notice_none (f k:Int) (A:Option Addr) (m c sub:Nat) (w:World) (hs:sub=1∨sub=11):Calls Tryz.prog 137 #[.agg #[.int .i64 f,.int .i64 k,.slice A m c],.int .i64 sub] w (Tells (.agg #[.int .i64 3,.int .i64 sub,.slice none 0 0]) w):=by
 have HL:=hid (fun s=>(three_boxes w 161 34 34 (.int .i64 f) (.int .i64 k) (.slice A m c) (.int .i64 3) (.int .i64 s) (.slice none 0 0) (.int .i64 3) (.int .i64 s) (.slice none 0 0)).2.2.2)
 rcases hs with rfl | rfl
 ·go_enter Tryz.func137,Tryz.ntmps137
  go_wp2
  (try simp only [Exit.inBlock,Exit.then])
  refine bodyPost_ret (v:=.agg #[.int .i64 3,.int .i64 1,.slice none 0 0]) (by simp [results,Tryz.results137,go_sem]) rfl ?_
  exact ⟨rfl,HL.out _⟩
 ·go_enter Tryz.func137,Tryz.ntmps137
  go_wp2
  (try simp only [Exit.inBlock,Exit.then])
  refine bodyPost_ret (v:=.agg #[.int .i64 3,.int .i64 11,.slice none 0 0]) (by simp [results,Tryz.results137,go_sem]) rfl ?_
  exact ⟨rfl,HL.out _⟩
theorem notice_data (f k:Nat) (A:Option Addr) (m:List Nat) (c sub:Nat) (w:World) (hx:U8s w (.slice A m.length c) m) (hf:f<256) (hk:k<256) (hm:m.length≤65535) (hc:255<m.length→f / 16 % 2=1) (h1:sub≠1) (h11:sub≠11) (hsub:sub<256) :
  Calls Tryz.prog 137 #[.agg #[.int .i64 f,.int .i64 k,.slice A m.length c],.int .i64 sub] w (fun e w'=>∃ v',e=.returned v'∧Note w' v' ⟨3,sub,itemB f k m⟩∧Below w.heap.size w w'):=by
 obtain ⟨q1,q2,q3,hb⟩:=three_boxes w 161 34 34 (.int .i64 f) (.int .i64 k) (.slice A m.length c) (.int .i64 0) (.int .i64 0) (.slice none 0 0) (.int .i64 3) (.int .i64 sub) (.slice none 0 0)
 have e3:(((w.alloc (.cells #[.int .i64 f,.int .i64 k,.slice A m.length c] 161)).alloc (.cells #[.int .i64 0,.int .i64 0,.slice none 0 0] 34)).alloc (.cells #[.int .i64 3,.int .i64 sub,.slice none 0 0] 34)).heap.size=w.heap.size+1+1+1:=by simp
 have hW:=wr_zero (((w.alloc (.cells #[.int .i64 f,.int .i64 k,.slice A m.length c] 161)).alloc (.cells #[.int .i64 0,.int .i64 0,.slice none 0 0] 34)).alloc (.cells #[.int .i64 3,.int .i64 sub,.slice none 0 0] 34)) (base:=w.heap.size) hb.size
 rw [e3] at hW
 have kb:Below (((w.alloc (.cells #[.int .i64 f,.int .i64 k,.slice A m.length c] 161)).alloc (.cells #[.int .i64 0,.int .i64 0,.slice none 0 0] 34)).alloc (.cells #[.int .i64 3,.int .i64 sub,.slice none 0 0] 34)).heap.size _ ((((w.alloc (.cells #[.int .i64 f,.int .i64 k,.slice A m.length c] 161)).alloc (.cells #[.int .i64 0,.int .i64 0,.slice none 0 0] 34)).alloc (.cells #[.int .i64 3,.int .i64 sub,.slice none 0 0] 34)).alloc (.cells #[.slice none 0 0] 97)):=(Below.refl _ _).alloc (Nat.le_refl _) _
 replace q1:=q1.keep kb
 replace q2:=q2.keep kb
 replace q3:=q3.keep kb
 have hb4:=hb.trans (kb.mono hb.size)
 have y1:((sub:Int) != 1)=true:=by simp;omega
 have y2:((sub:Int) != 11)=true:=by simp;omega
 have CP:=hid (put_item _ A c w.heap.size f k [] m _ _ hW (fun W' ho=>hx.keep (hb4.trans (ho.below (fun j hj=>by omega) hb4.size))) (by simp;omega) hb4.size hf hk hm hc)
 have HIL:=hid (show (itemB f k m).length≤70000 by unfold itemB;split <;> simp [big_len] <;> omega)
 rw [List.nil_append] at CP
 generalize itemB f k m=M at CP HIL ⊢
 have S0:=hid (And.intro q1 (And.intro q2 (And.intro q3 hb4)))
 have HSB:=hid (show (Lit.int .i64 (sub:Int)).wf=true by simp [Lit.wf,IntKind.min,IntKind.max,IntKind.signed,IntKind.bits];omega)
 obtain ⟨c0,c1,c2⟩:=q1.cells
 clear hx hf hk hm hc h1 h11 hsub q1 q2 q3 hb hW e3 kb hb4
 go_enter Tryz.func137,Tryz.ntmps137
 go_wp2_with (first
  | (go_at_call 145;(refine (CP.out).mono ?_;rintro e x ⟨rfl,F2,hS⟩;have W2:=hid hS;have S1:=hid (And.intro (S0.out.2.1.below (fun j hj=>hS.on.block j (by subst hj;exact S0.out.2.1.lt) (by omega))) (And.intro (S0.out.2.2.1.below (fun j hj=>hS.on.block j (by subst hj;exact S0.out.2.2.1.lt) (by omega))) (S0.out.2.2.2.trans (hS.on.below (n:=w.heap.size) (fun j hj=>by omega) S0.out.2.2.2.size))));clear hS c0 c1 c2 S0))
  | (go_at_call 63;(refine (wbytes_any _ _ _ _ _ W2.out.wr (Nat.le_trans HIL.out (by decide))).mono ?_;rintro e y ⟨Ab,cb,rfl,ho,hy⟩;have U1:=hid (U8s.of_own ho (wr_small W2.out.wr));have S2:=hid (And.intro (S1.out.1.keep hy) (And.intro ((S1.out.2.1.keep hy).set2 (.slice Ab M.length cb)) (S1.out.2.2.trans (hy.mono S1.out.2.2.size))));obtain ⟨d0,d1,d2⟩:=(S1.out.2.1.keep hy).cells;have fd:=(S1.out.2.1.keep hy).free;have T2:=hid (S1.out.2.1.keep hy);obtain ⟨g0,g1,g2⟩:=S2.out.2.1.cells;have E2:=hid ((S2.out.1.far (i:=2) (C:=w.heap.size+1+1) (by omega) (.slice Ab M.length cb)));obtain ⟨e0,e1,e2⟩:=E2.out.cells;have fe:=E2.out.free;clear ho hy S1)))
 (try simp only [Exit.inBlock,Exit.then])
 obtain ⟨r0,r1,r2⟩:=(E2.out.laid (.int .i64 3) (.int .i64 sub) (.slice Ab M.length cb)).cells
 unfold three at r0 r1 r2
 refine bodyPost_ret (v:=.agg #[.int .i64 3,.int .i64 sub,.slice Ab M.length cb]) (by simp [results,Tryz.results137,go_sem,r0,r1,r2]) rfl ?_
 have ho:=three_off (y.setCell ⟨w.heap.size+1+1,2,none⟩ (.slice Ab M.length cb)) (w.heap.size+1) (.int .i64 3) (.int .i64 sub) (.slice Ab M.length cb)
 have U2:U8s (y.setCell ⟨w.heap.size+1+1,2,none⟩ (.slice Ab M.length cb)) (.slice Ab M.length cb) M:=u8_apart U1.out (T2.out.no8 (no8_i _) (no8_i _) (no8_s _ _ _)) (fun q hq=>Go.RowKit.Below.heap_setCell _ _ _ _ hq) (by simp)
 have U3:=u8_apart U2 (E2.out.no8 (no8_i _) (no8_i _) (no8_s _ _ _)) ho.1 ho.2
 exact ⟨_,rfl,⟨show (Lit.int .i64 3).wf=true by decide,HSB.out,_,rfl,U3⟩,three_low (S2.out.2.2.setCell (p:=⟨w.heap.size+1+1,2,none⟩) (by show w.heap.size≤w.heap.size+1+1;omega) _) _ (by omega) _ _ _⟩
end Att
namespace Att
open Go.RowKit Mem Segm Oct Seg
theorem pathOf_fuel:∀ (n m:Nat) (b:List Nat),b.length≤n→b.length≤m→pathOf n b=pathOf m b
 | 0,0,_,_,_=>rfl
 | 0,m+1,b,h,_=>by
  obtain rfl:b=[]:=List.eq_nil_of_length_eq_zero (by omega)
  rfl
 | n+1,0,b,_,h=>by
  obtain rfl:b=[]:=List.eq_nil_of_length_eq_zero (by omega)
  rfl
 | n+1,m+1,b,hn,hm=>by
  match b,hn,hm with
  | [],_,_=>rfl
  | [_],_,_=>rfl
  | k :: c :: r,hn,hm =>
   simp only [List.length_cons] at hn hm
   unfold pathOf
   dsimp only
   rw [pathOf_fuel n m (r.drop (4*c)) (by rw [List.length_drop];omega) (by rw [List.length_drop];omega)]
theorem pathIs_step (k c:Nat) (r:List Nat):pathIs (k :: c :: r)=if (k=1∨k=2)∧c≠0∧4*c≤r.length then (pathIs (r.drop (4*c))).map fun l=>((k:Int),quadsN r c) :: l else none:=by
 unfold pathIs
 have h:pathOf (r.length+1+1) (k :: c :: r)=if (k=1∨k=2)∧c≠0∧4*c≤r.length then (pathOf (r.length+1) (r.drop (4*c))).map fun l=>((k:Int),quadsN r c) :: l else none:=rfl
 rw [show (k :: c :: r).length=r.length+1+1 from rfl,h,pathOf_fuel (r.length+1) (r.drop (4*c)).length (r.drop (4*c)) (by rw [List.length_drop];omega) (Nat.le_refl _)]
theorem pathIs_nil:pathIs []=some []:=rfl
theorem pathIs_one (a:Nat):pathIs [a]=none:=rfl
theorem path_round (a:Nat) (m:List Nat):∀ c x y,c=(Rd.mk m false).num 1→x=(Rd.mk m false).go 1→y=leftN x.l x.b c →
  ((y.2=false∧(a=1∨a=2)∧c≠0→pathIs (a :: m)=(pathIs y.1).map (fun l=>((a:Int),tookN x.l x.b c) :: l)∧y.1.length<m.length)∧(¬ (y.2=false∧(a=1∨a=2)∧c≠0)→pathIs (a :: m)=none)):=by
 rintro c x y rfl rfl rfl
 match m with
 | [] =>
  have h:(leftN ((Rd.mk [] false).go 1).l ((Rd.mk [] false).go 1).b ((Rd.mk [] false).num 1)).2=true:=by
   rw [show ((Rd.mk [] false).go 1).b=true from (go_short (by decide)).1]
   exact left_bad _
  exact ⟨fun hh=>absurd (h.symm.trans hh.1) (by decide),fun _=>rfl⟩
 | c :: r =>
  obtain ⟨h1,h2⟩:=head_go c r
  rw [h1,h2]
  dsimp only
  rw [pathIs_step]
  by_cases hc:4*c≤r.length
  ·obtain ⟨h3,h4⟩:=took_good (l:=r) c hc
   rw [h3,h4]
   refine ⟨fun hh=>?_,fun hh=>?_⟩
   ·rw [if_pos ⟨hh.2.1,hh.2.2,hc⟩]
    refine ⟨rfl,?_⟩
    rw [List.length_drop,List.length_cons];omega
   ·rw [if_neg (fun q=>hh ⟨rfl,q.1,q.2.1⟩)]
  ·have h3:=took_bad (l:=r) c (by omega)
   rw [h3]
   exact ⟨fun hh=>absurd hh.1 (by decide),fun _=>by rw [if_neg (fun q=>hc q.2.2)]⟩
theorem segs_on {F:Nat→Prop} {W W':World} {t:TypeId} {n:Nat} {v:Value} {p:List Piece} (h:OwnSegsF t n n W v p) (ho:Only F W W') (hF:∀ k,F k→k<n):OwnSegsF t n n W' v p:=by
 obtain ⟨q,h1,h2,h3,h4⟩:=h
 refine ⟨q,?_,h2.map fun x l hx hu=>?_,h3,h4⟩
 ·obtain ⟨k1,k2⟩:=h1
  refine ⟨k1,?_⟩
  rcases k2 with k2 | ⟨g,cap,cur,hv,hg,hh,r⟩
  ·exact .inl k2
  ·refine .inr ⟨g,cap,cur,hv,hg,(ho.block g ?_ (fun hf=>by have:=hF g hf;omega)).trans hh,r⟩
   exact (Array.getElem?_eq_some_iff.1 hh).1
 ·obtain ⟨⟨hl,A,c,rfl,hn,hc,hr⟩,hsm⟩:=hu
  refine ⟨⟨hl,A,c,rfl,hn,hc,fun h0=>?_⟩,hsm⟩
  obtain ⟨b,off,rfl,hlt,hcell⟩:=hr h0
  have hb:=h4 _ hx b off _ c rfl h0
  have hs:=ho.block b hlt (fun hf=>by have:=hF b hf;omega)
  exact ⟨b,off,rfl,Nat.lt_of_lt_of_le hlt ho.size,fun i y hy=>by rw [← hcell i y hy];exact World.cell?_of_block hs⟩
theorem segs_push {W W2:World} {base fb L c c2:Nat} {A A2:Option Addr} {p:List Piece} {q:List Value} {k:Int} {x:Value} {l:List Nat} (hq:Nums32 W p q) (hf:FreshQ fb q) (ha:Apart (.slice A L c) q) (hx:U32s W x l)
  (hxf:∀ b off m c',x=.slice (some ⟨b,off,none⟩) m c'→0<m→fb≤b∧(Value.slice A L c).ownBlock≠some b) (hL:L=p.length)
  (hown:W2.ownsRow base 108 2 (.slice A2 (L+1) c2) (L+1) (segCells p q ++ [.int .i64 k,x]))
  (hg:(W.alloc (.cells #[.int .i64 k,x] 108)).grownBy W2 (Value.slice A L c).ownBlock)
  (hat:(Value.slice A2 (L+1) c2).ownBlock=(Value.slice A L c).ownBlock∨(Value.slice A2 (L+1) c2).ownBlock=some (W.alloc (.cells #[.int .i64 k,x] 108)).heap.size) :
  OwnSegsF 108 base fb W2 (.slice A2 (L+1) c2) (p ++ [(k,l)]):=by
 obtain ⟨k1,k2,k3⟩:=segs_grownQ (p2:=[(k,l)]) (q2:=[x]) ((Below.refl _ _).alloc (Nat.le_refl _) _) hq ha (Nums32.one hx) (Apart.one fun b off m c' e h0=>(hxf b off m c' e h0).2) hg hat (by simp) (by rw [hL];rfl) hown
 exact ⟨_,k1,k2,k3,hf.append (FreshQ.one fun b off m c' e h0=>(hxf b off m c' e h0).1)⟩
theorem own_fresh {W:World} {base n size:Nat} {e:TypeId} {v:Value} {m:Nat} {xs:List Value} (h:W.ownsRow base e size v m xs) (hn:W.heap.size≤n) {b:Nat} (hb:n≤b):v.ownBlock≠some b:=fun hv=>by
 have:=(h.lt b hv).2
 omega
theorem fresh_apart {W:World} {N:Nat} {u x:Value} {p:List Piece} (h:OwnSegsF 108 N N W u p) (hN:N≤W.heap.size) (hn:NewAt W.heap.size x):∀ b off m c',x=.slice (some ⟨b,off,none⟩) m c'→0<m→N≤b∧u.ownBlock≠some b:=fun b off m c' e h0=>by
 have hb:=hn b off m c' e h0
 obtain ⟨q,h1,-⟩:=h
 exact ⟨Nat.le_trans hN hb,own_fresh h1 (Nat.le_refl _) hb⟩
def PathF (b:List Nat) (w:World) (e:Ending) (w':World):Prop :=
 Below w.heap.size w w'∧match pathIs b with
  | some p=>∃ v,e=.returned (.tuple #[v,.bool true])∧OwnSegsF 108 w.heap.size w.heap.size w' v p
  | none=>e=.returned (.tuple #[.slice none 0 0,.bool false])
def slen:Value→Nat
 | .slice _ n _=>n
 | _=>0
structure PtSt (w0:World) (N B:Nat) (x:Rd) (u:Value) (p:List Piece) (W:World):Prop where
 rd:R W w0.heap.size N (.pointer (some ⟨B,0,none⟩)) x.l x.b (fun k=>k=B)
 own:OwnSegsF 108 N N W u p
 low:Below w0.heap.size w0 W
 n:N≤W.heap.size∧w0.heap.size≤N
section
variable {w0 W W2:World} {N B:Nat} {x y:Rd} {u:Value} {p:List Piece}
theorem PtSt.read (h:PtSt w0 N B x u p W) (hr:R W2 w0.heap.size N (.pointer (some ⟨B,0,none⟩)) y.l y.b (fun k=>k=B)) (ho:Only (fun k=>k=B) W W2):PtSt w0 N B y u p W2:=by
 have hB:=h.rd.low B rfl
 exact ⟨hr,segs_on h.own ho (fun k e=>by subst e;exact hB.2),h.low.trans (ho.below (fun k e=>by subst e;exact hB.1) h.low.size),Nat.le_trans h.n.1 ho.size,h.n.2⟩
theorem PtSt.below (h:PtSt w0 N B x u p W) (hb:Below W.heap.size W W2):PtSt w0 N B x u p W2 :=
 ⟨h.rd.below hb,h.own.keep hb,h.low.trans (hb.mono h.low.size),Nat.le_trans h.n.1 hb.size,h.n.2⟩
end
theorem path_any (v:Value) (b:List Nat) (w:World) (hv:U8s w v b) (hl:b.length≤100000):Calls Tryz.prog 172 #[v] w (PathF b w):=by
 obtain ⟨ie,E⟩:=elemSeg
 have CN:=hid (new_any v b w hv (by omega))
 have HS:=hid hv.2
 have HL:=hid hl
 clear hv hl
 go_enter Tryz.func172,Tryz.ntmps172
 go_wp2_with (go_at_call 81;refine (CN.out).mono ?_;rintro e w1 ⟨B,rfl,hR,hb⟩;have ST0:=hid (show PtSt w w1.heap.size B ⟨b,false⟩ (.slice none 0 0) [] w1 from ⟨hR,nil_segsF _ _ _,hb,Nat.le_refl _,hb.size⟩);clear hR hb)
 obtain ⟨N,hN⟩:∃ N,N=w1.heap.size:=⟨_,rfl⟩
 rw [← hN] at ST0
 clear hN
 go_loopw [4] (fun v4 wx=>∃ (m:List Nat) (p:List Piece) (A:Option Addr) (c:Nat),v4=.slice A p.length c∧Hid (Small m∧p.length+m.length≤b.length∧pathIs b=(pathIs m).map fun l=>p ++ l)∧Hid (PtSt w N B ⟨m,false⟩ (.slice A p.length c) p wx)) (fun v4 _=>b.length - slen v4)
 case atStart=>exact ⟨b,[],none,0,rfl,hid ⟨HS.out,by simp,by simp⟩,ST0⟩
 case round =>
  obtain ⟨m,p,A,c,rfl,HI,ST⟩:=hrel
  have CL:=hid (left_any _ _ _ _ _ _ wr ST.out.rd)
  dsimp only at CL
  rcases m with _ | ⟨a,m1⟩
  ·have e0:¬ ((([]:List Nat).length:Nat):Int) > 0:=by simp
   go_wp2_with (go_at_call 87;refine (CL.out).mono ?_;rintro e x ⟨rfl,hb⟩;replace ST:=hid (ST.out.below hb);clear hb)
   go_ret2
   refine ⟨ST.out.low,?_⟩
   rw [HI.out.2.2,pathIs_nil]
   show ∃ v,Ending.returned (.tuple #[.slice A p.length c,.bool true])=.returned (.tuple #[v,.bool true])∧OwnSegsF 108 w.heap.size w.heap.size x v (p ++ [])
   rw [List.append_nil]
   exact ⟨_,rfl,ST.out.own.lower ST.out.n.2 ST.out.n.2⟩
  ·have hsm:=HI.out.1
   have hs1:Small m1:=fun n hn=>hsm n (by simp [hn])
   have z1:(((a :: m1).length:Nat):Int) > 0:=by simp only [List.length_cons];omega
   have CU:=hid (fun (x:Rd) (W:World) (hs:Small x.l) (h:R W w.heap.size N (.pointer (some ⟨B,0,none⟩)) x.l x.b (fun k=>k=B))=>show Calls Tryz.prog 82 #[.pointer (some ⟨B,0,none⟩)] W (fun e w'=>e=.returned (.int .i64 (x.num 1:Nat))∧R w' w.heap.size N (.pointer (some ⟨B,0,none⟩)) (x.go 1).l (x.go 1).b (fun k=>k=B)∧Only (fun k=>k=B) W w') from u8_any _ _ _ x.l x.b _ W hs h)
   have CU1:=hid (fun W h=>CU.out ⟨a :: m1,false⟩ W hsm h)
   rw [(head_go a m1).1,(head_go a m1).2] at CU1
   have CU2:=hid (fun W h=>CU.out ⟨m1,false⟩ W hs1 h)
   have CT:=hid (fun W (hn:N≤W.heap.size) h=>take_n (.pointer (some ⟨B,0,none⟩)) w.heap.size N ((Rd.mk m1 false).go 1).l ((Rd.mk m1 false).go 1).b (fun k=>k=B) ((Rd.mk m1 false).num 1) W (Rd.small (x:=⟨m1,false⟩) hs1 1) h hn (Nat.le_trans (Nat.le_of_lt (num_lt (x:=⟨m1,false⟩) hs1 1)) (by decide)))
   have HR:=hid (path_round a m1 _ _ _ rfl rfl rfl)
   have HY:=hid (show Small (leftN ((Rd.mk m1 false).go 1).l ((Rd.mk m1 false).go 1).b ((Rd.mk m1 false).num 1)).1∧(tookN ((Rd.mk m1 false).go 1).l ((Rd.mk m1 false).go 1).b ((Rd.mk m1 false).num 1)).length=(Rd.mk m1 false).num 1 from ⟨leftN_small (Rd.small (x:=⟨m1,false⟩) hs1 1) _,tookN_len _ _ _⟩)
   unfold TakeN at CT
   generalize leftN ((Rd.mk m1 false).go 1).l ((Rd.mk m1 false).go 1).b ((Rd.mk m1 false).num 1)=y at CT HR HY
   generalize tookN ((Rd.mk m1 false).go 1).l ((Rd.mk m1 false).go 1).b ((Rd.mk m1 false).num 1)=ns at CT HR HY
   generalize (Rd.mk m1 false).num 1=k at CU2 CT HR HY
   generalize (Rd.mk m1 false).go 1=x at CU2 CT
   clear CU hsm hs1
   obtain ⟨y,bad⟩:=y
   dsimp only at CT HR HY
   have hpl:p.length+(m1.length+1)≤100000:=Nat.le_trans HI.out.2.1 HL.out
   by_cases hok:bad=false∧(a=1∨a=2)∧k≠0
   ·have HP:=hid (HR.out.1 hok)
    obtain ⟨rfl,ha,hk⟩:=hok
    have zk:((k:Int) == 0)=false:=by simp;omega
    rcases ha with rfl | rfl
    focus obtain ⟨z,hz⟩:∃ z:Int,z=1:=⟨_,rfl⟩
    rotate_left
    focus obtain ⟨z,hz⟩:∃ z:Int,z=2:=⟨_,rfl⟩
    all_goals
     go_wp2_with (first
     | (go_at_call 87;refine (CL.out).mono ?_;rintro e x1 ⟨rfl,hb⟩;have S1:=hid (ST.out.below hb);clear hb ST)
     | (have h:=S1.out;go_at_call 82;refine (CU1.out _ h.rd).mono ?_;rintro e x2 ⟨rfl,hr,ho⟩;have S2:=hid (h.read (y:=⟨m1,false⟩) hr ho);clear h hr ho S1)
     | (have h:=S2.out;go_at_call 82;refine (CU2.out _ h.rd).mono ?_;rintro e x3 ⟨rfl,hr,ho⟩;have S3:=hid (h.read (y:=x) hr ho);clear h hr ho S2)
     | (have h:=S3.out;go_at_call 173;refine (CT.out _ h.n.1 h.rd).mono ?_;rintro e x4 ⟨At,ct,rfl,hU,hn,hr,ho⟩;have HAP:=hid (fresh_apart h.own h.n.1 hn);have S4:=hid (h.read (y:=⟨y,false⟩) hr ho);have HU:=hid hU;clear h hr ho hU hn S3)
     | (have h:=S4.out;go_at_call 85;refine (bad_any _ _ _ _ _ _ _ h.rd).mono ?_;rintro e x5 ⟨rfl,hb⟩;have S5:=hid (h.below hb);replace HU:=hid (HU.out.keep hb);clear h hb S4)
     | (have h:=S5.out;obtain ⟨q,o1,o2,o3,o4⟩:=h.own;at_builtin;refine wpList_append_row rfl (.tmp 34) (.tmp 38) rfl E N _ p.length (segCells p q) rfl (o1.alloc _) _ 1 [_,.slice At k ct] rfl (row_seg_at _ _ _ _ rfl) (ones_two _ _ _ _) (by unfold maxLen;omega) (by omega) (by have:=h.n.1;simp;omega) (p.length+1) rfl ?_;intro A2 c2 w2 hown2 hg2 hat2 hb2;have S6:=hid (segs_push (l:=ns) o2 o4 o3 HU.out HAP.out rfl hown2 hg2 hat2);have HB6:=hid hb2;clear h o1 o2 o3 o4 hown2 hg2 hat2 hb2))
     go_roundw
     case rel =>
      have h:=S6.out
      refine ⟨y,p ++ [(z,ns)],A2,c2,by rw [List.length_append];rfl,hid ⟨HY.out.1,?_,?_⟩,hid ?_⟩
      ·have h1:=HP.out.2
       have h2:=HI.out.2.1
       simp only [List.length_append,List.length_cons,List.length_nil] at h2 ⊢
       omega
      ·subst hz
       rw [HI.out.2.2,HP.out.1]
       cases pathIs y <;> simp
      ·rw [List.length_append]
       have g:=S5.out.below ((Below.refl _ _).alloc (Nat.le_refl _) (.cells #[.int .i64 z,.slice At k ct] 108))
       subst hz
       exact ⟨g.rd.keep (fun j hj=>HB6.out.block j hj) HB6.out.size,h,g.low.trans (HB6.out.mono g.n.2),Nat.le_trans g.n.1 HB6.out.size,g.n.2⟩
     case measure =>
      have h2:=HI.out.2.1
      simp [slen] at h2 ⊢
      omega
   ·have HN:=hid (HR.out.2 hok)
    rcases bad with _ | _
    focus
     by_cases h1:a=1
     focus
      subst h1
      obtain rfl:k=0:=by
       rcases Nat.eq_zero_or_pos k with h | h
       ·exact h
       ·exact absurd ⟨rfl,.inl rfl,by omega⟩ hok
     rotate_left
     by_cases h2:a=2
     focus
      subst h2
      obtain rfl:k=0:=by
       rcases Nat.eq_zero_or_pos k with h | h
       ·exact h
       ·exact absurd ⟨rfl,.inr rfl,by omega⟩ hok
     rotate_left
     have d1:((a:Int) != 1)=true:=by simp;omega
     have d2:((a:Int) != 2)=true:=by simp;omega
    all_goals
     go_wp2_with (first
     | (go_at_call 87;refine (CL.out).mono ?_;rintro e x1 ⟨rfl,hb⟩;have S1:=hid (ST.out.below hb);clear hb ST)
     | (have h:=S1.out;go_at_call 82;refine (CU1.out _ h.rd).mono ?_;rintro e x2 ⟨rfl,hr,ho⟩;have S2:=hid (h.read (y:=⟨m1,false⟩) hr ho);clear h hr ho S1)
     | (have h:=S2.out;go_at_call 82;refine (CU2.out _ h.rd).mono ?_;rintro e x3 ⟨rfl,hr,ho⟩;have S3:=hid (h.read (y:=x) hr ho);clear h hr ho S2)
     | (have h:=S3.out;go_at_call 173;refine (CT.out _ h.n.1 h.rd).mono ?_;rintro e x4 ⟨At,ct,rfl,hU,hn,hr,ho⟩;have HAP:=hid (fresh_apart h.own h.n.1 hn);have S4:=hid (h.read (y:=⟨y,_⟩) hr ho);have HU:=hid hU;clear h hr ho hU hn S3)
     | (have h:=S4.out;go_at_call 85;refine (bad_any _ _ _ _ _ _ _ h.rd).mono ?_;rintro e x5 ⟨rfl,hb⟩;have S5:=hid (h.below hb);replace HU:=hid (HU.out.keep hb);clear h hb S4))
     go_ret2
     refine ⟨S5.out.low,?_⟩
     rw [HI.out.2.2,HN.out]
     rfl
end Att
namespace Att
open Go.RowKit Mem Segm Oct Seg
theorem only_new {G F:Nat→Prop} {w W W2:World} (h:Only G w W) (k:Only F W W2) (hF:∀ q,F q→w.heap.size≤q):Only G w W2 :=
 ⟨k.os.trans h.os,k.tape.trans h.tape,k.output.trans h.output,Nat.le_trans h.size k.size,fun j hj hg=>(k.block j (Nat.lt_of_lt_of_le hj h.size) (fun hf=>by have:=hF j hf;omega)).trans (h.block j hj hg)⟩
theorem R.apart {W W':World} {base n B:Nat} {v:Value} {l:List Nat} {bad:Bool} {F:Nat→Prop} (h:R W base n v l bad F) (hB:∀ i n,W.cell? ⟨B,i,none⟩≠some (.int .u8 n)) (hb:B<base) (hk:∀ k,k≠B→W'.heap[k]?=W.heap[k]?) (hs:W.heap.size≤W'.heap.size):R W' base n v l bad F:=by
 rcases h with h | ⟨b,s,h1,h2,h3,h4,h5,h6,h7,h8⟩
 ·exact .inl h
 ·exact .inr ⟨b,s,h1,h2,h3,Nat.le_trans h4 hs,(hk b (by omega)).trans h5,u8_apart h6 hB hk hs,h7,h8⟩
theorem Box9.no8 {W:World} {B:Nat} {t:TypeId} {y0 y1 y2 y3 y4 y5 y6 y7 y8:Value} (h:Box9 W B t y0 y1 y2 y3 y4 y5 y6 y7 y8) (hy:∀ u∈[y0,y1,y2,y3,y4,y5,y6,y7,y8],No8 u) (i:Nat) (n:Int):W.cell? ⟨B,i,none⟩≠some (.int .u8 n) :=
 no8_cells h.blk (fun u hu=>hy u (by simpa using hu)) i n
structure FiSt (w0:World) (B:Nat) (y0 y1 y2 y3 y4 y5 y6 y7 y8 z0 z1 z2:Value) (b N:Nat) (x:Rd) (W:World):Prop where
 b9:Box9 W B 29 y0 y1 y2 y3 y4 y5 y6 y7 y8
 n8:∀ u∈[y0,y1,y2,y3,y4,y5,y6,y7,y8],No8 u
 b3:Box3 W w0.heap.size 161 z0 z1 z2
 rd:R W (w0.heap.size+1) N (.pointer (some ⟨b,0,none⟩)) x.l x.b (fun q=>q=b)
 on:Only (fun q=>q=B) w0 W
 lt:B<w0.heap.size
section
variable {w0 W W2:World} {B b N:Nat} {y0 y1 y2 y3 y4 y5 y6 y7 y8 z0 z1 z2 u:Value} {x y:Rd}
theorem FiSt.below (h:FiSt w0 B y0 y1 y2 y3 y4 y5 y6 y7 y8 z0 z1 z2 b N x W) (hb:Below W.heap.size W W2):FiSt w0 B y0 y1 y2 y3 y4 y5 y6 y7 y8 z0 z1 z2 b N x W2 :=
 ⟨h.b9.keep hb,h.n8,h.b3.keep hb,h.rd.below hb,h.on.trans (Only.of hb),h.lt⟩
theorem FiSt.read (h:FiSt w0 B y0 y1 y2 y3 y4 y5 y6 y7 y8 z0 z1 z2 b N x W) (hr:R W2 (w0.heap.size+1) N (.pointer (some ⟨b,0,none⟩)) y.l y.b (fun q=>q=b)) (ho:Only (fun q=>q=b) W W2):FiSt w0 B y0 y1 y2 y3 y4 y5 y6 y7 y8 z0 z1 z2 b N y W2:=by
 have hb:=h.rd.low b rfl
 have hB:=h.lt
 exact ⟨⟨(ho.block B h.b9.lt (by omega)).trans h.b9.blk⟩,h.n8,⟨(ho.block w0.heap.size h.b3.lt (by omega)).trans h.b3.blk⟩,hr,only_new h.on ho (fun q e=>by subst e;omega),h.lt⟩
theorem fi_new {xf xk xv:Value} (h:Box9 w0 B 29 y0 y1 y2 y3 y4 y5 y6 y7 y8) (n8:∀ u∈[y0,y1,y2,y3,y4,y5,y6,y7,y8],No8 u)
  (hR:R W (w0.alloc (.cells #[xf,xk,xv] 161)).heap.size N (.pointer (some ⟨b,0,none⟩)) x.l x.b (fun q=>q=b)) (hb:Below (w0.alloc (.cells #[xf,xk,xv] 161)).heap.size (w0.alloc (.cells #[xf,xk,xv] 161)) W) :
  FiSt w0 B y0 y1 y2 y3 y4 y5 y6 y7 y8 xf xk xv b N x W:=by
 have e1:(w0.alloc (.cells #[xf,xk,xv] 161)).heap.size=w0.heap.size+1:=by simp
 have k1:Below w0.heap.size w0 (w0.alloc (.cells #[xf,xk,xv] 161)):=(Below.refl _ _).alloc (Nat.le_refl _) _
 rw [e1] at hR
 exact ⟨(h.keep k1).keep hb,n8,(Box3.new _ _ _ _ _).keep hb,hR,(Only.of k1).trans (Only.of hb),h.lt⟩
theorem FiSt.far (h:FiSt w0 B y0 y1 y2 y3 y4 y5 y6 y7 y8 z0 z1 z2 b N x W) (i:Nat) (u:Value):Box3 (W.setCell ⟨B,i,none⟩ u) w0.heap.size 161 z0 z1 z2∧R (W.setCell ⟨B,i,none⟩ u) (w0.heap.size+1) N (.pointer (some ⟨b,0,none⟩)) x.l x.b (fun q=>q=b)∧Only (fun q=>q=B) w0 (W.setCell ⟨B,i,none⟩ u):=by
 have hB:=h.lt
 exact ⟨h.b3.far (by omega) u,R.apart h.rd (h.b9.no8 h.n8) (by omega) (fun k hk=>Go.RowKit.Below.heap_setCell _ _ _ _ hk) (by simp),h.on.set rfl u⟩
theorem FiSt.set0 (h:FiSt w0 B y0 y1 y2 y3 y4 y5 y6 y7 y8 z0 z1 z2 b N x W) (u:Value) (hu:No8 u):FiSt w0 B u y1 y2 y3 y4 y5 y6 y7 y8 z0 z1 z2 b N x (W.setCell ⟨B,0,none⟩ u) :=
 ⟨h.b9.set0 u,fun v hv=>by have:=h.n8 v;simp only [List.mem_cons,List.not_mem_nil,or_false] at hv this;(rcases hv with rfl | rfl | rfl | rfl | rfl | rfl | rfl | rfl | rfl) <;> first | exact hu | exact this (by simp),(h.far 0 u).1,(h.far 0 u).2.1,(h.far 0 u).2.2,h.lt⟩
theorem FiSt.set1 (h:FiSt w0 B y0 y1 y2 y3 y4 y5 y6 y7 y8 z0 z1 z2 b N x W) (u:Value) (hu:No8 u):FiSt w0 B y0 u y2 y3 y4 y5 y6 y7 y8 z0 z1 z2 b N x (W.setCell ⟨B,1,none⟩ u) :=
 ⟨h.b9.set1 u,fun v hv=>by have:=h.n8 v;simp only [List.mem_cons,List.not_mem_nil,or_false] at hv this;(rcases hv with rfl | rfl | rfl | rfl | rfl | rfl | rfl | rfl | rfl) <;> first | exact hu | exact this (by simp),(h.far 1 u).1,(h.far 1 u).2.1,(h.far 1 u).2.2,h.lt⟩
theorem FiSt.set2 (h:FiSt w0 B y0 y1 y2 y3 y4 y5 y6 y7 y8 z0 z1 z2 b N x W) (u:Value) (hu:No8 u):FiSt w0 B y0 y1 u y3 y4 y5 y6 y7 y8 z0 z1 z2 b N x (W.setCell ⟨B,2,none⟩ u) :=
 ⟨h.b9.set2 u,fun v hv=>by have:=h.n8 v;simp only [List.mem_cons,List.not_mem_nil,or_false] at hv this;(rcases hv with rfl | rfl | rfl | rfl | rfl | rfl | rfl | rfl | rfl) <;> first | exact hu | exact this (by simp),(h.far 2 u).1,(h.far 2 u).2.1,(h.far 2 u).2.2,h.lt⟩
theorem FiSt.set3 (h:FiSt w0 B y0 y1 y2 y3 y4 y5 y6 y7 y8 z0 z1 z2 b N x W) (u:Value) (hu:No8 u):FiSt w0 B y0 y1 y2 u y4 y5 y6 y7 y8 z0 z1 z2 b N x (W.setCell ⟨B,3,none⟩ u) :=
 ⟨h.b9.set3 u,fun v hv=>by have:=h.n8 v;simp only [List.mem_cons,List.not_mem_nil,or_false] at hv this;(rcases hv with rfl | rfl | rfl | rfl | rfl | rfl | rfl | rfl | rfl) <;> first | exact hu | exact this (by simp),(h.far 3 u).1,(h.far 3 u).2.1,(h.far 3 u).2.2,h.lt⟩
theorem FiSt.set4 (h:FiSt w0 B y0 y1 y2 y3 y4 y5 y6 y7 y8 z0 z1 z2 b N x W) (u:Value) (hu:No8 u):FiSt w0 B y0 y1 y2 y3 u y5 y6 y7 y8 z0 z1 z2 b N x (W.setCell ⟨B,4,none⟩ u) :=
 ⟨h.b9.set4 u,fun v hv=>by have:=h.n8 v;simp only [List.mem_cons,List.not_mem_nil,or_false] at hv this;(rcases hv with rfl | rfl | rfl | rfl | rfl | rfl | rfl | rfl | rfl) <;> first | exact hu | exact this (by simp),(h.far 4 u).1,(h.far 4 u).2.1,(h.far 4 u).2.2,h.lt⟩
theorem FiSt.set5 (h:FiSt w0 B y0 y1 y2 y3 y4 y5 y6 y7 y8 z0 z1 z2 b N x W) (u:Value) (hu:No8 u):FiSt w0 B y0 y1 y2 y3 y4 u y6 y7 y8 z0 z1 z2 b N x (W.setCell ⟨B,5,none⟩ u) :=
 ⟨h.b9.set5 u,fun v hv=>by have:=h.n8 v;simp only [List.mem_cons,List.not_mem_nil,or_false] at hv this;(rcases hv with rfl | rfl | rfl | rfl | rfl | rfl | rfl | rfl | rfl) <;> first | exact hu | exact this (by simp),(h.far 5 u).1,(h.far 5 u).2.1,(h.far 5 u).2.2,h.lt⟩
theorem FiSt.set6 (h:FiSt w0 B y0 y1 y2 y3 y4 y5 y6 y7 y8 z0 z1 z2 b N x W) (u:Value) (hu:No8 u):FiSt w0 B y0 y1 y2 y3 y4 y5 u y7 y8 z0 z1 z2 b N x (W.setCell ⟨B,6,none⟩ u) :=
 ⟨h.b9.set6 u,fun v hv=>by have:=h.n8 v;simp only [List.mem_cons,List.not_mem_nil,or_false] at hv this;(rcases hv with rfl | rfl | rfl | rfl | rfl | rfl | rfl | rfl | rfl) <;> first | exact hu | exact this (by simp),(h.far 6 u).1,(h.far 6 u).2.1,(h.far 6 u).2.2,h.lt⟩
theorem FiSt.set7 (h:FiSt w0 B y0 y1 y2 y3 y4 y5 y6 y7 y8 z0 z1 z2 b N x W) (u:Value) (hu:No8 u):FiSt w0 B y0 y1 y2 y3 y4 y5 y6 u y8 z0 z1 z2 b N x (W.setCell ⟨B,7,none⟩ u) :=
 ⟨h.b9.set7 u,fun v hv=>by have:=h.n8 v;simp only [List.mem_cons,List.not_mem_nil,or_false] at hv this;(rcases hv with rfl | rfl | rfl | rfl | rfl | rfl | rfl | rfl | rfl) <;> first | exact hu | exact this (by simp),(h.far 7 u).1,(h.far 7 u).2.1,(h.far 7 u).2.2,h.lt⟩
theorem FiSt.set8 (h:FiSt w0 B y0 y1 y2 y3 y4 y5 y6 y7 y8 z0 z1 z2 b N x W) (u:Value) (hu:No8 u):FiSt w0 B y0 y1 y2 y3 y4 y5 y6 y7 u z0 z1 z2 b N x (W.setCell ⟨B,8,none⟩ u) :=
 ⟨h.b9.set8 u,fun v hv=>by have:=h.n8 v;simp only [List.mem_cons,List.not_mem_nil,or_false] at hv this;(rcases hv with rfl | rfl | rfl | rfl | rfl | rfl | rfl | rfl | rfl) <;> first | exact hu | exact this (by simp),(h.far 8 u).1,(h.far 8 u).2.1,(h.far 8 u).2.2,h.lt⟩
end
end Att
namespace Att
open Go.RowKit Mem Segm Oct Seg
structure BoxA (W:World) (B N:Nat) (a:At):Prop where
 ok:a.ok
 lt:B<N∧N≤W.heap.size
 box:∃ Ap np cp Ac nc cc,Box9 W B 29 (.int .i64 a.has) (.int .i64 a.origin) (.slice Ap np cp) (.int .u32 a.hop) (.int .u32 a.med) (.int .u32 a.pref) (.int .u32 a.aas) (.int .u32 a.aid) (.slice Ac nc cc)∧OwnSegsF 108 N N W (.slice Ap np cp) a.path∧U32s W (.slice Ac nc cc) a.comms∧NewAt N (.slice Ac nc cc)
theorem u32_on {F:Nat→Prop} {W W':World} {n:Nat} {v:Value} {l:List Nat} (h:U32s W v l) (hn:NewAt n v) (ho:Only F W W') (hF:∀ k,F k→k<n):U32s W' v l:=by
 obtain ⟨⟨hl,A,c,rfl,hm,hc,hr⟩,hsm⟩:=h
 refine ⟨⟨hl,A,c,rfl,hm,hc,fun h0=>?_⟩,hsm⟩
 obtain ⟨b,off,rfl,hlt,hcell⟩:=hr h0
 have hb:=hn b off _ c rfl h0
 have hs:=ho.block b hlt (fun hf=>by have:=hF b hf;omega)
 exact ⟨b,off,rfl,Nat.lt_of_lt_of_le hlt ho.size,fun i y hy=>by rw [← hcell i y hy];exact World.cell?_of_block hs⟩
theorem BoxA.on {F:Nat→Prop} {W W':World} {B N:Nat} {a:At} (h:BoxA W B N a) (ho:Only F W W') (hF:∀ k,F k→k<N∧k≠B):BoxA W' B N a:=by
 obtain ⟨h1,h2,Ap,np,cp,Ac,nc,cc,h3,h4,h5,h6⟩:=h
 exact ⟨h1,⟨h2.1,Nat.le_trans h2.2 ho.size⟩,Ap,np,cp,Ac,nc,cc,⟨(ho.block B h3.lt (fun hf=>(hF B hf).2 rfl)).trans h3.blk⟩,segs_on h4 ho (fun k hk=>(hF k hk).1),u32_on h5 h6 ho (fun k hk=>(hF k hk).1),h6⟩
theorem BoxA.below {W W':World} {B N:Nat} {a:At} (h:BoxA W B N a) (hb:Below W.heap.size W W'):BoxA W' B N a:=h.on (F:=fun _=>False) (Only.of hb) (fun _ hk=>hk.elim)
def fillN (k:Nat) (v:List Nat):Nat :=
 if k=1 then (if 2<val v then 6 else 0)
 else if k=2 then (match pathIs v with | some p=>if goodP (normS p) && decide (lens p≤2000) then 0 else 11 | none=>11)
 else if k=3 then (if hopB (val v) then 0 else 8)
 else 0
def fillA (a:At) (k:Nat) (v:List Nat):At :=
 ⟨a.has,if k=1 then (val v:Nat) else a.origin,if k=2 then (pathIs v).getD [] else a.path,if k=3 then val v else a.hop,if k=4 then val v else a.med,if k=5 then val v else a.pref,
  if k=7 then val (v.take 4) else a.aas,if k=7 then val (v.drop 4) else a.aid,if k=8 then quads v else a.comms⟩
def FillF (B N:Nat) (a:At) (k:Nat) (v:List Nat) (w:World) (e:Ending) (w':World):Prop :=
 e=.returned (.int .i64 (fillN k v:Nat))∧Only (fun q=>q=B) w w'∧(fillN k v=0→BoxA w' B N (fillA a k v))
theorem num_all {v:List Nat} {k:Nat} (h:v.length=k):(Rd.mk v false).num (k:Nat)=val v:=by
 have hf:=(fit_go (l:=v) (n:=k) (by omega)).2
 unfold Rd.num
 rw [hf,← h,List.take_length]
theorem n9 {h o:Int} {hp md pr ag ai np cp nc cc:Nat} {Ap Ac:Option Addr}:∀ u∈[Value.int .i64 h,.int .i64 o,.slice Ap np cp,.int .u32 hp,.int .u32 md,.int .u32 pr,.int .u32 ag,.int .u32 ai,.slice Ac nc cc],No8 u:=fun u hu=>by
 simp only [List.mem_cons,List.not_mem_nil,or_false] at hu
 rcases hu with rfl | rfl | rfl | rfl | rfl | rfl | rfl | rfl | rfl
 ·exact no8_i _
 ·exact no8_i _
 ·exact no8_s _ _ _
 ·exact no8_u _
 ·exact no8_u _
 ·exact no8_u _
 ·exact no8_u _
 ·exact no8_u _
 ·exact no8_s _ _ _
theorem val32 {v:List Nat} (hs:Small v) (h:v.length≤4):val v<4294967296:=by
 have h1:=val_lt 4 hs
 rw [List.take_of_length_le h] at h1
 exact h1
theorem fill45 (k:Nat) (ki f:Int) (A:Option Addr) (c:Nat) (v:List Nat) (w:World) (B N:Nat) (a:At) (hA:BoxA w B N a) (hv:U8s w (.slice A v.length c) v) (hl:v.length=4) (hk:k=4∧ki=4∨k=5∧ki=5) :
  Calls Tryz.prog 161 #[.agg #[.int .i64 f,.int .i64 ki,.slice A v.length c],.pointer (some ⟨B,0,none⟩)] w (FillF B N a k v w):=by
 obtain ⟨hok,hlt,Ap,np,cp,Ac,nc,cc,h9,hp,hc,hn⟩:=hA
 have hb1:Below w.heap.size w (w.alloc (.cells #[.int .i64 f,.int .i64 ki,.slice A v.length c] 161)):=(Below.refl _ _).alloc (Nat.le_refl _) _
 have CN:=hid (new_any _ v _ (hv.keep hb1) (by omega))
 have HS:=hid hv.2
 have HOK:=hid hok
 have HP:=hid hp
 have HC:=hid (And.intro hc hn)
 have H9:=hid h9
 have q3:=Box3.new w 161 (.int .i64 f) (.int .i64 ki) (.slice A v.length c)
 obtain ⟨d0,d1,d2⟩:=q3.cells
 obtain ⟨hh,ho,hpt,hh3,hh4,hh5,hh6,hh7,hh8⟩:=a
 dsimp only at hp h9 hc hok HP HC H9 HOK
 clear hv hb1 hp hc hn h9 hok q3
 have HV:=hid (val32 HS.out (by omega))
 have CU:=hid (fun (b N:Nat) (W:World) (h:R W (w.heap.size+1) N (.pointer (some ⟨b,0,none⟩)) v false (fun q=>q=b))=>show Calls Tryz.prog 84 #[.pointer (some ⟨b,0,none⟩)] W (fun e w'=>e=.returned (.int .u32 (val v:Nat))∧R w' (w.heap.size+1) N (.pointer (some ⟨b,0,none⟩)) ((Rd.mk v false).go 4).l ((Rd.mk v false).go 4).b (fun q=>q=b)∧Only (fun q=>q=b) W w') from by
  rw [← num_all hl]
  exact u32_any _ _ _ v false _ W HS.out h)
 clear hl
 rcases hk with ⟨rfl,rfl⟩ | ⟨rfl,rfl⟩
 all_goals
  go_enter Tryz.func161,Tryz.ntmps161
  go_wp2_with (first
   | (go_at_call 81;refine (CN.out).mono ?_;rintro e x ⟨b,rfl,hR,hb⟩;have S1:=hid (fi_new (x:=⟨v,false⟩) H9.out n9 hR hb);clear hR hb d0 d1 d2;obtain ⟨d0,d1,d2⟩:=S1.out.b3.cells;obtain ⟨c0,c1,c2,c3,c4,c5,c6,c7,c8⟩:=S1.out.b9.cells;have fB:=S1.out.b9.free)
   | (have h:=S1.out;go_at_call 84;refine ((hid (CU.out _ _)).out _ h.rd).mono ?_;rintro e x ⟨rfl,hR,ho⟩;have S2:=hid (h.read hR ho);clear hR ho h S1;clear d0 d1 d2 c0 c1 c2 c3 c4 c5 c6 c7 c8 fB;obtain ⟨d0,d1,d2⟩:=S2.out.b3.cells;obtain ⟨c0,c1,c2,c3,c4,c5,c6,c7,c8⟩:=S2.out.b9.cells;have fB:=S2.out.b9.free))
  go_ret
  first | (have S3:=hid (S2.out.set4 (.int .u32 (val v:Nat)) (no8_u _));exact ⟨rfl,S3.out.on,fun _=>⟨⟨HOK.out.1,HOK.out.2.1,HOK.out.2.2.1,HV.out,HOK.out.2.2.2.2⟩,⟨hlt.1,Nat.le_trans hlt.2 S3.out.on.size⟩,Ap,np,cp,Ac,nc,cc,S3.out.b9,segs_on HP.out S3.out.on (fun k e=>by subst e;exact hlt.1),u32_on HC.out.1 HC.out.2 S3.out.on (fun k e=>by subst e;exact hlt.1),HC.out.2⟩⟩) | (have S3:=hid (S2.out.set5 (.int .u32 (val v:Nat)) (no8_u _));exact ⟨rfl,S3.out.on,fun _=>⟨⟨HOK.out.1,HOK.out.2.1,HOK.out.2.2.1,HOK.out.2.2.2.1,HV.out,HOK.out.2.2.2.2.2⟩,⟨hlt.1,Nat.le_trans hlt.2 S3.out.on.size⟩,Ap,np,cp,Ac,nc,cc,S3.out.b9,segs_on HP.out S3.out.on (fun k e=>by subst e;exact hlt.1),u32_on HC.out.1 HC.out.2 S3.out.on (fun k e=>by subst e;exact hlt.1),HC.out.2⟩⟩)
theorem fill4 (f:Int) (A:Option Addr) (c:Nat) (v:List Nat) (w:World) (B N:Nat) (a:At) (hA:BoxA w B N a) (hv:U8s w (.slice A v.length c) v) (hl:v.length=4) :
  Calls Tryz.prog 161 #[.agg #[.int .i64 f,.int .i64 4,.slice A v.length c],.pointer (some ⟨B,0,none⟩)] w (FillF B N a 4 v w) :=
 fill45 4 4 f A c v w B N a hA hv hl (.inl ⟨rfl,rfl⟩)
theorem fill5 (f:Int) (A:Option Addr) (c:Nat) (v:List Nat) (w:World) (B N:Nat) (a:At) (hA:BoxA w B N a) (hv:U8s w (.slice A v.length c) v) (hl:v.length=4) :
  Calls Tryz.prog 161 #[.agg #[.int .i64 f,.int .i64 5,.slice A v.length c],.pointer (some ⟨B,0,none⟩)] w (FillF B N a 5 v w) :=
 fill45 5 5 f A c v w B N a hA hv hl (.inr ⟨rfl,rfl⟩)
theorem fill1 (f:Int) (A:Option Addr) (c:Nat) (v:List Nat) (w:World) (B N:Nat) (a:At) (hA:BoxA w B N a) (hv:U8s w (.slice A v.length c) v) (hl:v.length=1) :
  Calls Tryz.prog 161 #[.agg #[.int .i64 f,.int .i64 1,.slice A v.length c],.pointer (some ⟨B,0,none⟩)] w (FillF B N a 1 v w):=by
 obtain ⟨hok,hlt,Ap,np,cp,Ac,nc,cc,h9,hp,hc,hn⟩:=hA
 have hb1:Below w.heap.size w (w.alloc (.cells #[.int .i64 f,.int .i64 1,.slice A v.length c] 161)):=(Below.refl _ _).alloc (Nat.le_refl _) _
 have CN:=hid (new_any _ v _ (hv.keep hb1) (by omega))
 have HS:=hid hv.2
 have HOK:=hid hok
 have HP:=hid hp
 have HC:=hid (And.intro hc hn)
 have H9:=hid h9
 have q3:=Box3.new w 161 (.int .i64 f) (.int .i64 1) (.slice A v.length c)
 obtain ⟨d0,d1,d2⟩:=q3.cells
 obtain ⟨hh,ho,hpt,hh3,hh4,hh5,hh6,hh7,hh8⟩:=a
 dsimp only at hp h9 hc hok HP HC H9 HOK
 clear hv hb1 hp hc hn h9 hok q3
 have CU:=hid (fun (b N:Nat) (W:World) (h:R W (w.heap.size+1) N (.pointer (some ⟨b,0,none⟩)) v false (fun q=>q=b))=>show Calls Tryz.prog 82 #[.pointer (some ⟨b,0,none⟩)] W (fun e w'=>e=.returned (.int .i64 (val v:Nat))∧R w' (w.heap.size+1) N (.pointer (some ⟨b,0,none⟩)) ((Rd.mk v false).go 1).l ((Rd.mk v false).go 1).b (fun q=>q=b)∧Only (fun q=>q=b) W w') from by
  rw [← num_all hl]
  exact u8_any _ _ _ v false _ W HS.out h)
 have HV:=hid (show (Lit.int .i64 ((val v:Nat):Int)).wf=true by
  have:=val32 HS.out (by omega)
  simp [Lit.wf,IntKind.min,IntKind.max,IntKind.signed,IntKind.bits];omega)
 clear hl
 by_cases h2:2<val v
 focus
  have z1:((val v:Nat):Int) > 2:=by omega
  have HE:=hid (show fillN 1 v=6 by simp [fillN,h2])
 rotate_left
 focus
  have z1:decide ((2:Int)<(val v:Nat))=false:=decide_eq_false (by omega)
  have HE:=hid (show fillN 1 v=0 by simp [fillN,h2])
 all_goals
  clear h2
  unfold FillF
  rw [HE.out]
  go_enter Tryz.func161,Tryz.ntmps161
  go_wp2_with (first
   | (go_at_call 81;refine (CN.out).mono ?_;rintro e x ⟨b,rfl,hR,hb⟩;have S1:=hid (fi_new (x:=⟨v,false⟩) H9.out n9 hR hb);clear hR hb d0 d1 d2;obtain ⟨d0,d1,d2⟩:=S1.out.b3.cells;obtain ⟨c0,c1,c2,c3,c4,c5,c6,c7,c8⟩:=S1.out.b9.cells;have fB:=S1.out.b9.free)
   | (have h:=S1.out;go_at_call 82;refine ((hid (CU.out _ _)).out _ h.rd).mono ?_;rintro e x ⟨rfl,hR,ho⟩;have S2:=hid (h.read hR ho);clear hR ho h S1;clear d0 d1 d2 c0 c1 c2 c3 c4 c5 c6 c7 c8 fB;obtain ⟨d0,d1,d2⟩:=S2.out.b3.cells;obtain ⟨c0,c1,c2,c3,c4,c5,c6,c7,c8⟩:=S2.out.b9.cells;have fB:=S2.out.b9.free;have S3:=hid (S2.out.set1 (.int .i64 (val v:Nat)) (no8_i _));obtain ⟨e0,e1,e2,e3,e4,e5,e6,e7,e8⟩:=S3.out.b9.cells))
  go_ret
  refine ⟨rfl,S3.out.on,fun hz=>?_⟩
  first | exact ⟨⟨HOK.out.1,HV.out,HOK.out.2.2⟩,⟨hlt.1,Nat.le_trans hlt.2 S3.out.on.size⟩,Ap,np,cp,Ac,nc,cc,S3.out.b9,segs_on HP.out S3.out.on (fun k e=>by subst e;exact hlt.1),u32_on HC.out.1 HC.out.2 S3.out.on (fun k e=>by subst e;exact hlt.1),HC.out.2⟩ | cases hz
theorem fill3 (f:Int) (A:Option Addr) (c:Nat) (v:List Nat) (w:World) (B N:Nat) (a:At) (hA:BoxA w B N a) (hv:U8s w (.slice A v.length c) v) (hl:v.length=4) :
  Calls Tryz.prog 161 #[.agg #[.int .i64 f,.int .i64 3,.slice A v.length c],.pointer (some ⟨B,0,none⟩)] w (FillF B N a 3 v w):=by
 obtain ⟨hok,hlt,Ap,np,cp,Ac,nc,cc,h9,hp,hc,hn⟩:=hA
 have hb1:Below w.heap.size w (w.alloc (.cells #[.int .i64 f,.int .i64 3,.slice A v.length c] 161)):=(Below.refl _ _).alloc (Nat.le_refl _) _
 have CN:=hid (new_any _ v _ (hv.keep hb1) (by omega))
 have HS:=hid hv.2
 have HOK:=hid hok
 have HP:=hid hp
 have HC:=hid (And.intro hc hn)
 have H9:=hid h9
 have q3:=Box3.new w 161 (.int .i64 f) (.int .i64 3) (.slice A v.length c)
 obtain ⟨d0,d1,d2⟩:=q3.cells
 obtain ⟨hh,ho,hpt,hh3,hh4,hh5,hh6,hh7,hh8⟩:=a
 dsimp only at hp h9 hc hok HP HC H9 HOK
 clear hv hb1 hp hc hn h9 hok q3
 have HV:=hid (val32 HS.out (by omega))
 have CU:=hid (fun (b N:Nat) (W:World) (h:R W (w.heap.size+1) N (.pointer (some ⟨b,0,none⟩)) v false (fun q=>q=b))=>show Calls Tryz.prog 84 #[.pointer (some ⟨b,0,none⟩)] W (fun e w'=>e=.returned (.int .u32 (val v:Nat))∧R w' (w.heap.size+1) N (.pointer (some ⟨b,0,none⟩)) ((Rd.mk v false).go 4).l ((Rd.mk v false).go 4).b (fun q=>q=b)∧Only (fun q=>q=b) W w') from by
  rw [← num_all hl]
  exact u32_any _ _ _ v false _ W HS.out h)
 have CH:=hid (fun W=>hop_any (val v) W HV.out)
 clear hl
 rcases hh2:hopB (val v) with _ | _
 focus
  have HE:=hid (show fillN 3 v=8 by simp [fillN,hh2])
 rotate_left
 focus
  have HE:=hid (show fillN 3 v=0 by simp [fillN,hh2])
 all_goals
  rw [hh2] at CH
  clear hh2
  unfold FillF
  rw [HE.out]
  go_enter Tryz.func161,Tryz.ntmps161
  go_wp2_with (first
   | (go_at_call 81;refine (CN.out).mono ?_;rintro e x ⟨b,rfl,hR,hb⟩;have S1:=hid (fi_new (x:=⟨v,false⟩) H9.out n9 hR hb);clear hR hb d0 d1 d2;obtain ⟨d0,d1,d2⟩:=S1.out.b3.cells;obtain ⟨c0,c1,c2,c3,c4,c5,c6,c7,c8⟩:=S1.out.b9.cells;have fB:=S1.out.b9.free)
   | (have h:=S1.out;go_at_call 84;refine ((hid (CU.out _ _)).out _ h.rd).mono ?_;rintro e x ⟨rfl,hR,ho⟩;have S2:=hid (h.read hR ho);clear hR ho h S1;clear d0 d1 d2 c0 c1 c2 c3 c4 c5 c6 c7 c8 fB;obtain ⟨d0,d1,d2⟩:=S2.out.b3.cells;obtain ⟨c0,c1,c2,c3,c4,c5,c6,c7,c8⟩:=S2.out.b9.cells;have fB:=S2.out.b9.free;have S3:=hid (S2.out.set3 (.int .u32 (val v:Nat)) (no8_u _));obtain ⟨e0,e1,e2,e3,e4,e5,e6,e7,e8⟩:=S3.out.b9.cells)
   | (go_at_call 117;refine (CH.out _).mono ?_;rintro e x ⟨rfl,hb⟩;have S4:=hid (S3.out.below hb);clear hb))
  go_ret
  refine ⟨rfl,S4.out.on,fun hz=>?_⟩
  first | exact ⟨⟨HOK.out.1,HOK.out.2.1,HV.out,HOK.out.2.2.2⟩,⟨hlt.1,Nat.le_trans hlt.2 S4.out.on.size⟩,Ap,np,cp,Ac,nc,cc,S4.out.b9,segs_on HP.out S4.out.on (fun k e=>by subst e;exact hlt.1),u32_on HC.out.1 HC.out.2 S4.out.on (fun k e=>by subst e;exact hlt.1),HC.out.2⟩ | cases hz
theorem fill6 (f:Int) (A:Option Addr) (c:Nat) (v:List Nat) (w:World) (B N:Nat) (a:At) (hA:BoxA w B N a) (hv:U8s w (.slice A v.length c) v) (hl:v.length=0) :
  Calls Tryz.prog 161 #[.agg #[.int .i64 f,.int .i64 6,.slice A v.length c],.pointer (some ⟨B,0,none⟩)] w (FillF B N a 6 v w):=by
 obtain ⟨hok,hlt,Ap,np,cp,Ac,nc,cc,h9,hp,hc,hn⟩:=hA
 have hb1:Below w.heap.size w (w.alloc (.cells #[.int .i64 f,.int .i64 6,.slice A v.length c] 161)):=(Below.refl _ _).alloc (Nat.le_refl _) _
 have CN:=hid (new_any _ v _ (hv.keep hb1) (by omega))
 have HOK:=hid hok
 have HP:=hid hp
 have HC:=hid (And.intro hc hn)
 have H9:=hid h9
 have q3:=Box3.new w 161 (.int .i64 f) (.int .i64 6) (.slice A v.length c)
 obtain ⟨d0,d1,d2⟩:=q3.cells
 obtain ⟨hh,ho,hpt,hh3,hh4,hh5,hh6,hh7,hh8⟩:=a
 dsimp only at hp h9 hc hok HP HC H9 HOK
 clear hv hb1 hp hc hn h9 hok q3
 clear hl
 go_enter Tryz.func161,Tryz.ntmps161
 go_wp2_with (go_at_call 81;refine (CN.out).mono ?_;rintro e x ⟨b,rfl,hR,hb⟩;have S1:=hid (fi_new (x:=⟨v,false⟩) H9.out n9 hR hb);clear hR hb d0 d1 d2;obtain ⟨d0,d1,d2⟩:=S1.out.b3.cells;obtain ⟨c0,c1,c2,c3,c4,c5,c6,c7,c8⟩:=S1.out.b9.cells;have fB:=S1.out.b9.free)
 go_ret
 refine ⟨rfl,S1.out.on,fun _=>?_⟩
 exact ⟨HOK.out,⟨hlt.1,Nat.le_trans hlt.2 S1.out.on.size⟩,Ap,np,cp,Ac,nc,cc,S1.out.b9,segs_on HP.out S1.out.on (fun k e=>by subst e;exact hlt.1),u32_on HC.out.1 HC.out.2 S1.out.on (fun k e=>by subst e;exact hlt.1),HC.out.2⟩
theorem fill7 (f:Int) (A:Option Addr) (c:Nat) (v:List Nat) (w:World) (B N:Nat) (a:At) (hA:BoxA w B N a) (hv:U8s w (.slice A v.length c) v) (hl:v.length=8) :
  Calls Tryz.prog 161 #[.agg #[.int .i64 f,.int .i64 7,.slice A v.length c],.pointer (some ⟨B,0,none⟩)] w (FillF B N a 7 v w):=by
 obtain ⟨hok,hlt,Ap,np,cp,Ac,nc,cc,h9,hp,hc,hn⟩:=hA
 have hb1:Below w.heap.size w (w.alloc (.cells #[.int .i64 f,.int .i64 7,.slice A v.length c] 161)):=(Below.refl _ _).alloc (Nat.le_refl _) _
 have CN:=hid (new_any _ v _ (hv.keep hb1) (by omega))
 have HS:=hid hv.2
 have HOK:=hid hok
 have HP:=hid hp
 have HC:=hid (And.intro hc hn)
 have H9:=hid h9
 have q3:=Box3.new w 161 (.int .i64 f) (.int .i64 7) (.slice A v.length c)
 obtain ⟨d0,d1,d2⟩:=q3.cells
 obtain ⟨hh,ho,hpt,hh3,hh4,hh5,hh6,hh7,hh8⟩:=a
 dsimp only at hp h9 hc hok HP HC H9 HOK
 clear hv hb1 hp hc hn h9 hok q3
 have HV:=hid (val32 (HS.out.take 4) (List.length_take_le _ _))
 have HV2:=hid (val32 (HS.out.drop 4) (by rw [List.length_drop];omega))
 have CU:=hid (fun (b N:Nat) (W:World) (h:R W (w.heap.size+1) N (.pointer (some ⟨b,0,none⟩)) v false (fun q=>q=b))=>show Calls Tryz.prog 84 #[.pointer (some ⟨b,0,none⟩)] W (fun e w'=>e=.returned (.int .u32 (val (v.take 4):Nat))∧R w' (w.heap.size+1) N (.pointer (some ⟨b,0,none⟩)) (Rd.mk (v.drop 4) false).l (Rd.mk (v.drop 4) false).b (fun q=>q=b)∧Only (fun q=>q=b) W w') from by
  have h1:=u32_any _ _ _ v false _ W HS.out h
  unfold NumF at h1
  have e1:=fit_go (l:=v) (n:=4) (by omega)
  rw [show got v false 4=v.take 4 from e1.2,show rest v false 4=v.drop 4 from congrArg Rd.l e1.1,show fails v false 4=false from congrArg Rd.b e1.1] at h1
  exact h1)
 have CV:=hid (fun (b N:Nat) (W:World) (h:R W (w.heap.size+1) N (.pointer (some ⟨b,0,none⟩)) (v.drop 4) false (fun q=>q=b))=>show Calls Tryz.prog 84 #[.pointer (some ⟨b,0,none⟩)] W (fun e w'=>e=.returned (.int .u32 (val (v.drop 4):Nat))∧R w' (w.heap.size+1) N (.pointer (some ⟨b,0,none⟩)) ((Rd.mk (v.drop 4) false).go 4).l ((Rd.mk (v.drop 4) false).go 4).b (fun q=>q=b)∧Only (fun q=>q=b) W w') from by
  rw [← num_all (v:=v.drop 4) (k:=4) (by rw [List.length_drop];omega)]
  exact u32_any _ _ _ (v.drop 4) false _ W (HS.out.drop 4) h)
 clear hl
 go_enter Tryz.func161,Tryz.ntmps161
 go_wp2_with (first
  | (go_at_call 81;refine (CN.out).mono ?_;rintro e x ⟨b,rfl,hR,hb⟩;have S1:=hid (fi_new (x:=⟨v,false⟩) H9.out n9 hR hb);clear hR hb d0 d1 d2;obtain ⟨d0,d1,d2⟩:=S1.out.b3.cells;obtain ⟨c0,c1,c2,c3,c4,c5,c6,c7,c8⟩:=S1.out.b9.cells;have fB:=S1.out.b9.free)
  | (have h:=S1.out;go_at_call 84;refine ((hid (CU.out _ _)).out _ h.rd).mono ?_;rintro e x ⟨rfl,hR,ho⟩;have S2:=hid (h.read (y:=⟨v.drop 4,false⟩) hR ho);clear hR ho h S1;clear d0 d1 d2 c0 c1 c2 c3 c4 c5 c6 c7 c8 fB;obtain ⟨d0,d1,d2⟩:=S2.out.b3.cells;obtain ⟨c0,c1,c2,c3,c4,c5,c6,c7,c8⟩:=S2.out.b9.cells;have fB:=S2.out.b9.free;have S3:=hid (S2.out.set6 (.int .u32 (val (v.take 4):Nat)) (no8_u _));clear S2;obtain ⟨e0,e1,e2,e3,e4,e5,e6,e7,e8⟩:=S3.out.b9.cells;have fE:=S3.out.b9.free)
  | (have h:=S3.out;go_at_call 84;refine (CV.out _ _ _ h.rd).mono ?_;rintro e x ⟨rfl,hR,ho⟩;have S4:=hid (h.read (y:=(Rd.mk (v.drop 4) false).go 4) hR ho);clear hR ho h S3;clear d0 d1 d2 c0 c1 c2 c3 c4 c5 c6 c7 c8 fB e0 e1 e2 e3 e4 e5 e6 e7 e8 fE;obtain ⟨d0,d1,d2⟩:=S4.out.b3.cells;obtain ⟨c0,c1,c2,c3,c4,c5,c6,c7,c8⟩:=S4.out.b9.cells;have fB:=S4.out.b9.free;have S5:=hid (S4.out.set7 (.int .u32 (val (v.drop 4):Nat)) (no8_u _))))
 go_ret
 refine ⟨rfl,S5.out.on,fun _=>?_⟩
 exact ⟨⟨HOK.out.1,HOK.out.2.1,HOK.out.2.2.1,HOK.out.2.2.2.1,HOK.out.2.2.2.2.1,HV.out,HV2.out⟩,⟨hlt.1,Nat.le_trans hlt.2 S5.out.on.size⟩,Ap,np,cp,Ac,nc,cc,S5.out.b9,segs_on HP.out S5.out.on (fun k e=>by subst e;exact hlt.1),u32_on HC.out.1 HC.out.2 S5.out.on (fun k e=>by subst e;exact hlt.1),HC.out.2⟩
end Att
namespace Att
open Go.RowKit Mem Segm Oct Seg
theorem pathOf_len:∀ (n:Nat) (b:List Nat) (p:List Piece),Small b→b.length≤n→pathOf n b=some p→4*lens p+2*p.length=b.length∧FitS 255 p
 | 0,b,p,_,hn,h=>by
  obtain rfl:b=[]:=List.eq_nil_of_length_eq_zero (by omega)
  have h0:(some []:Option (List Piece))=some p:=h
  injection h0 with h0
  subst h0
  exact ⟨rfl,fun s hs=>by cases hs⟩
 | n+1,[],p,_,_,h=>by
  have h0:(some []:Option (List Piece))=some p:=h
  injection h0 with h0
  subst h0
  exact ⟨rfl,fun s hs=>by cases hs⟩
 | n+1,[_],p,_,_,h=>by
  have h0:(none:Option (List Piece))=some p:=h
  cases h0
 | n+1,k :: c :: r,p,hs,hn,h=>by
  unfold pathOf at h
  dsimp only at h
  simp only [List.length_cons] at hn ⊢
  split at h
  ·rename_i hc
   cases hq:pathOf n (r.drop (4*c)) with
   | none=>rw [hq] at h;cases h
   | some q =>
    rw [hq] at h
    have h0:(((k:Nat):Int),quadsN r c) :: q=p:=by simpa using h
    subst h0
    obtain ⟨h1,h2⟩:=pathOf_len n (r.drop (4*c)) q (fun x hx=>hs x (by simp [List.mem_of_mem_drop hx])) (by rw [List.length_drop];omega) hq
    rw [List.length_drop] at h1
    have e:lens ((((k:Nat):Int),quadsN r c) :: q)=c+lens q:=by simp [lens,quadsN_len]
    rw [e,List.length_cons]
    refine ⟨by omega,fun s hsm=>?_⟩
    rcases List.mem_cons.1 hsm with rfl | h3
    ·show (quadsN r c).length≤255
     rw [quadsN_len]
     have:=hs c (by simp)
     omega
    ·exact h2 s h3
  ·cases h
theorem pathIs_len {b:List Nat} {p:List Piece} (hs:Small b) (h:pathIs b=some p):4*lens p+2*p.length=b.length∧FitS 255 p:=pathOf_len _ b p hs (Nat.le_refl _) h
theorem bulk_is (p:List Piece):bulk p=lens p+p.length:=by
 induction p with
 | nil=>rfl
 | cons s p ih =>
  have e1:bulk (s :: p)=s.2.length+1+bulk p:=by simp [bulk]
  have e2:lens (s :: p)=s.2.length+lens p:=by simp [lens]
  rw [e1,e2,ih,List.length_cons];omega
theorem u8_only {W W':World} {v:Value} {l:List Nat} {B:Nat} (h:U8s W v l) (h9:∀ i n,W.cell? ⟨B,i,none⟩≠some (.int .u8 n)) (ho:Only (fun q=>q=B) W W'):U8s W' v l:=by
 obtain ⟨⟨hl,A,c,rfl,hm,hc,hr⟩,hsm⟩:=h
 refine ⟨⟨hl,A,c,rfl,hm,hc,fun h0=>?_⟩,hsm⟩
 obtain ⟨b,off,rfl,hlt,hcell⟩:=hr h0
 obtain ⟨x,hx⟩:∃ x,l[0]?=some x:=⟨_,List.getElem?_eq_getElem h0⟩
 have hne:b≠B:=fun e=>by
  subst e
  have h5:=hcell 0 (.int .u8 x) (by unfold cells8;rw [List.getElem?_map,hx];rfl)
  exact h9 _ _ h5
 exact ⟨b,off,rfl,Nat.lt_of_lt_of_le hlt ho.size,fun i y hy=>by rw [← hcell i y hy];exact World.cell?_of_block (ho.block b hlt hne)⟩
theorem rsize {W:World} {base n b:Nat} {l:List Nat} {bad:Bool} {F:Nat→Prop} (h:R W base n (.pointer (some ⟨b,0,none⟩)) l bad F):n≤W.heap.size:=by
 rcases h with ⟨h,_⟩ | ⟨_,_,_,_,_,h4,_⟩
 ·cases h
 ·exact h4
theorem fill8 (f:Int) (A:Option Addr) (c:Nat) (v:List Nat) (w:World) (B N:Nat) (a:At) (hA:BoxA w B N a) (hv:U8s w (.slice A v.length c) v) (hl:v.length % 4=0∧v.length≤1020) :
  Calls Tryz.prog 161 #[.agg #[.int .i64 f,.int .i64 8,.slice A v.length c],.pointer (some ⟨B,0,none⟩)] w (FillF B N a 8 v w):=by
 obtain ⟨hok,hlt,Ap,np,cp,Ac,nc,cc,h9,hp,hc,hn⟩:=hA
 have hb1:Below w.heap.size w (w.alloc (.cells #[.int .i64 f,.int .i64 8,.slice A v.length c] 161)):=(Below.refl _ _).alloc (Nat.le_refl _) _
 have CN:=hid (new_any _ v _ (hv.keep hb1) (by omega))
 have HS:=hid hv.2
 have HOK:=hid hok
 have HP:=hid hp
 have HC:=hid (And.intro hc hn)
 have H9:=hid h9
 have q3:=Box3.new w 161 (.int .i64 f) (.int .i64 8) (.slice A v.length c)
 obtain ⟨d0,d1,d2⟩:=q3.cells
 obtain ⟨hh,ho,hpt,hh3,hh4,hh5,hh6,hh7,hh8⟩:=a
 dsimp only at hp h9 hc hok HP HC H9 HOK
 clear hv hb1 hp hc hn h9 hok q3
 obtain ⟨hl4,hl⟩:=hl
 have CT:=hid (fun (b N:Nat) (W:World) (h:R W (w.heap.size+1) N (.pointer (some ⟨b,0,none⟩)) v false (fun q=>q=b))=>show Calls Tryz.prog 173 #[.pointer (some ⟨b,0,none⟩),.int .i64 (v.length / 4:Nat)] W (fun e w'=>∃ A c,e=.returned (.slice A (v.length / 4) c)∧U32s w' (.slice A (v.length / 4) c) (quads v)∧NewAt W.heap.size (.slice A (v.length / 4) c)∧R w' (w.heap.size+1) N (.pointer (some ⟨b,0,none⟩)) (Rd.mk (v.drop (4*(v.length / 4))) false).l false (fun q=>q=b)∧Only (fun q=>q=b) W w') from by
  have h1:=take_n _ _ _ v false _ (v.length / 4) W HS.out h (rsize h) (by omega)
  unfold TakeN at h1
  obtain ⟨e1,e2⟩:=took_good (l:=v) (v.length / 4) (by omega)
  rw [e1,e2] at h1
  exact h1)
 have CL:=hid (fun (b N:Nat) (W:World) (h:R W (w.heap.size+1) N (.pointer (some ⟨b,0,none⟩)) v false (fun q=>q=b))=>left_any _ _ _ v false _ W h)
 have wq:wrap64 (((v.length:Nat):Int) / 4)=((v.length / 4:Nat):Int):=by unfold wrap64;omega
 have hok2:=HOK.out
 clear hl4 hl
 go_enter Tryz.func161,Tryz.ntmps161
 go_wp2_with (first
  | (go_at_call 81;refine (CN.out).mono ?_;rintro e x ⟨b,rfl,hR,hb⟩;have S1:=hid (fi_new (x:=⟨v,false⟩) H9.out n9 hR hb);clear hR hb d0 d1 d2;obtain ⟨d0,d1,d2⟩:=S1.out.b3.cells;obtain ⟨c0,c1,c2,c3,c4,c5,c6,c7,c8⟩:=S1.out.b9.cells;have fB:=S1.out.b9.free)
  | (have h:=S1.out;go_at_call 87;refine (CL.out _ _ _ h.rd).mono ?_;rintro e x ⟨rfl,hb⟩;have S2:=hid (h.below hb);clear hb h S1;clear d0 d1 d2 c0 c1 c2 c3 c4 c5 c6 c7 c8 fB;obtain ⟨d0,d1,d2⟩:=S2.out.b3.cells;obtain ⟨c0,c1,c2,c3,c4,c5,c6,c7,c8⟩:=S2.out.b9.cells;have fB:=S2.out.b9.free)
  | (have h:=S2.out;go_at_call 173;refine (CT.out _ _ _ h.rd).mono ?_;rintro e x9 ⟨At,ct,rfl,hU,hN,hR,ho⟩;have S3:=hid (h.read (y:=⟨v.drop (4*(v.length / 4)),false⟩) hR ho);have HU:=hid (And.intro hU (hN.lower (Nat.le_trans hlt.2 h.on.size)));clear hR ho hU hN h S2;clear d0 d1 d2 c0 c1 c2 c3 c4 c5 c6 c7 c8 fB;obtain ⟨d0,d1,d2⟩:=S3.out.b3.cells;obtain ⟨c0,c1,c2,c3,c4,c5,c6,c7,c8⟩:=S3.out.b9.cells;have fB:=S3.out.b9.free;have S4:=hid (S3.out.set8 (.slice At (v.length / 4) ct) (no8_s _ _ _))))
 go_ret
 refine ⟨rfl,S4.out.on,fun _=>?_⟩
 exact ⟨HOK.out,⟨hlt.1,Nat.le_trans hlt.2 S4.out.on.size⟩,Ap,np,cp,At,_,ct,S4.out.b9,segs_on HP.out S4.out.on (fun k e=>by subst e;exact hlt.1),u32_off HU.out.1 HU.out.2 (off_set _ hlt.1) (by simp),HU.out.2⟩
theorem fill2 (f : Int) (A : Option Addr) (c : Nat) (v : List Nat) (w : World) (B N : Nat) (a : At) (hA : BoxA w B N a) (hv : U8s w (.slice A v.length c) v) (hl : v.length ≤ 65535) :
    Calls Tryz.prog 161 #[.agg #[.int .i64 f,.int .i64 2,.slice A v.length c],.pointer (some ⟨B,0,none⟩)] w (FillF B N a 2 v w):=by
  obtain ⟨hok,hlt,Ap,np,cp,Ac,nc,cc,h9,hp,hc,hn⟩:=hA
  have hb1:Below w.heap.size w (w.alloc (.cells #[.int .i64 f,.int .i64 2,.slice A v.length c] 161)):=(Below.refl _ _).alloc (Nat.le_refl _) _
  have CN:=hid (new_any _ v _ (hv.keep hb1) (by omega))
  have HS:=hid hv.2
  have HOK:=hid hok
  have HP:=hid hp
  have HC:=hid (And.intro hc hn)
  have H9:=hid h9
  have q3:=Box3.new w 161 (.int .i64 f) (.int .i64 2) (.slice A v.length c)
  obtain ⟨d0,d1,d2⟩:=q3.cells
  obtain ⟨hh,ho,hpt,hh3,hh4,hh5,hh6,hh7,hh8⟩:=a
  dsimp only at hp h9 hc hok HP HC H9 HOK
  have HUV:=hid hv
  clear hv hb1 hp hc hn h9 hok q3
  have HV:=hid (fun (W:World) (h:Only (fun q=>q=B) w W) (h9:∀ i n,w.cell? ⟨B,i,none⟩≠some (.int .u8 n))=>u8_only HUV.out h9 h)
  have CP:=hid (fun (W:World) (h:U8s W (.slice A v.length c) v)=>path_any _ v W h (by omega))
  cases hp2:pathIs v with
  | none =>
    have HE:=hid (show fillN 2 v=11 by simp [fillN,hp2])
    unfold PathF at CP
    rw [hp2] at CP
    clear hp2 hl
    unfold FillF
    rw [HE.out]
    go_enter Tryz.func161,Tryz.ntmps161
    go_wp2_with (first
      | (go_at_call 81;refine (CN.out).mono ?_;rintro e x ⟨b,rfl,hR,hb⟩;have S1:=hid (fi_new (x:=⟨v,false⟩) H9.out n9 hR hb);clear hR hb d0 d1 d2;obtain ⟨d0,d1,d2⟩:=S1.out.b3.cells;obtain ⟨c0,c1,c2,c3,c4,c5,c6,c7,c8⟩:=S1.out.b9.cells;have fB:=S1.out.b9.free)
      | (have h:=S1.out;go_at_call 172;refine (CP.out _ (HV.out _ h.on (H9.out.no8 n9))).mono ?_;intro e x hF;have HF:=hid (And.intro (h.below hF.1) hF.2);clear hF h;have S2:=hid HF.out.1;obtain rfl:=HF.out.2;clear HF;clear S1;clear d0 d1 d2 c0 c1 c2 c3 c4 c5 c6 c7 c8 fB;obtain ⟨d0,d1,d2⟩:=S2.out.b3.cells;obtain ⟨c0,c1,c2,c3,c4,c5,c6,c7,c8⟩:=S2.out.b9.cells;have fB:=S2.out.b9.free))
    go_ret
    refine ⟨rfl,S2.out.on,fun hz=>?_⟩
    cases hz
  | some p =>
    obtain ⟨hpl,hpf⟩:=pathIs_len HS.out hp2
    unfold PathF at CP
    rw [hp2] at CP
    have CN2:=hid (fun (v':Value) (W:World) (h:Segs W v' p)=>numbers_any v' p W h (by omega))
    have CM:=hid (fun (v':Value) (W:World) (h:Segs W v' p)=>pnorm_any v' p W h (by rw [bulk_is];omega) (fun s hs=>Nat.le_trans (hpf s hs) (by decide)))
    have CG:=hid (fun (v':Value) (W:World) (h:Segs W v' (normS p))=>pgood_any v' (normS p) W h)
    have HEQ:=hid (show fillN 2 v=if goodP (normS p) && decide (lens p≤2000) then 0 else 11 by simp [fillN,hp2])
    have HPV:=hid (show (pathIs v).getD []=p by rw [hp2];rfl)
    unfold FillF
    rw [HEQ.out]
    clear hp2 hl hpl hpf
    by_cases hln:2000<lens p
    focus
      have z1:((lens p:Nat):Int) > 2000:=by omega
      rw [decide_eq_false (show ¬ lens p≤2000 by omega),Bool.and_false,if_neg (by decide)]
      clear hln HEQ
    rotate_left
    focus
      have z1:decide ((2000:Int)<(lens p:Nat))=false:=decide_eq_false (by omega)
      rw [decide_eq_true (show lens p≤2000 by omega),Bool.and_true]
      clear hln HEQ
      rcases hg:goodP (normS p) with _ | _
      focus
        rw [hg] at CG
        rw [if_neg (by decide)]
        clear hg
      rotate_left
      rw [hg] at CG
      rw [if_pos (by decide)]
      clear hg
    all_goals
      go_enter Tryz.func161,Tryz.ntmps161
      go_wp2_with (first
        | (go_at_call 81;refine (CN.out).mono ?_;rintro e x ⟨b,rfl,hR,hb⟩;have S1:=hid (fi_new (x:=⟨v,false⟩) H9.out n9 hR hb);clear hR hb d0 d1 d2;obtain ⟨d0,d1,d2⟩:=S1.out.b3.cells;obtain ⟨c0,c1,c2,c3,c4,c5,c6,c7,c8⟩:=S1.out.b9.cells;have fB:=S1.out.b9.free)
        | (have h:=S1.out;go_at_call 172;refine (CP.out _ (HV.out _ h.on (H9.out.no8 n9))).mono ?_;intro e x hF;have HF:=hid (And.intro (h.below hF.1) hF.2);clear hF h;obtain ⟨vq,rfl,hq⟩:=HF.out.2;obtain ⟨aq,cq,rfl⟩:=hq.form;have HQ:=hid (hq.lower (Nat.le_trans hlt.2 S1.out.on.size) (Nat.le_trans hlt.2 S1.out.on.size));have S2:=hid HF.out.1;clear HF hq;clear S1;clear d0 d1 d2 c0 c1 c2 c3 c4 c5 c6 c7 c8 fB;obtain ⟨d0,d1,d2⟩:=S2.out.b3.cells;obtain ⟨c0,c1,c2,c3,c4,c5,c6,c7,c8⟩:=S2.out.b9.cells;have fB:=S2.out.b9.free)
        | (go_at_call 115;refine (CN2.out _ _ HQ.out.segs).mono ?_;rintro e x ⟨rfl,hb⟩;have S3:=hid (S2.out.below hb);replace HQ:=hid (HQ.out.keep hb);clear hb S2;clear d0 d1 d2 c0 c1 c2 c3 c4 c5 c6 c7 c8 fB;obtain ⟨d0,d1,d2⟩:=S3.out.b3.cells;obtain ⟨c0,c1,c2,c3,c4,c5,c6,c7,c8⟩:=S3.out.b9.cells;have fB:=S3.out.b9.free)
        | (go_at_call 162;refine (CM.out _ _ HQ.out.segs).mono ?_;rintro e x ⟨vn,rfl,hn,hb⟩;have HN:=hid hn.segs;have S4:=hid (S3.out.below hb);replace HQ:=hid (HQ.out.keep hb);clear hb hn S3;clear d0 d1 d2 c0 c1 c2 c3 c4 c5 c6 c7 c8 fB;obtain ⟨d0,d1,d2⟩:=S4.out.b3.cells;obtain ⟨c0,c1,c2,c3,c4,c5,c6,c7,c8⟩:=S4.out.b9.cells;have fB:=S4.out.b9.free)
        | (go_at_call 114;refine (CG.out _ _ HN.out).mono ?_;rintro e x ⟨rfl,hb⟩;have S5:=hid (S4.out.below hb);replace HQ:=hid (HQ.out.keep hb);clear hb S4;clear d0 d1 d2 c0 c1 c2 c3 c4 c5 c6 c7 c8 fB;obtain ⟨d0,d1,d2⟩:=S5.out.b3.cells;obtain ⟨c0,c1,c2,c3,c4,c5,c6,c7,c8⟩:=S5.out.b9.cells;have fB:=S5.out.b9.free;have fE:=S5.out.b9.free;have S6:=hid (S5.out.set2 (.slice aq p.length cq) (no8_s _ _ _))))
      go_ret
      first
        | (refine ⟨rfl, S6.out.on, fun _ => ?_⟩
           have HQ2:=segs_off HQ.out (off_set (B:=B) (i:=2) (.slice aq p.length cq) hlt.1) (by simp)
           refine ⟨HOK.out,⟨hlt.1,Nat.le_trans hlt.2 S6.out.on.size⟩,aq,_,cq,Ac,nc,cc,S6.out.b9,?_,u32_on HC.out.1 HC.out.2 S6.out.on (fun k e=>by subst e;exact hlt.1),HC.out.2⟩
           show OwnSegsF 108 N N _ _ ((pathIs v).getD [])
           rw [HPV.out]
           exact HQ2)
        | (refine ⟨rfl,S5.out.on,fun hz=>?_⟩;cases hz)
        | (refine ⟨rfl,S3.out.on,fun hz=>?_⟩;cases hz)
end Att
namespace Att
open Go.RowKit Mem Segm Oct Seg
theorem fill_any (f k:Nat) (A:Option Addr) (c:Nat) (v:List Nat) (w:World) (B N:Nat) (a:At) (hA:BoxA w B N a) (hv:U8s w (.slice A v.length c) v) (h1:1≤k) (h8:k≤8) (hl:longB k v.length=true) (hm:v.length≤65535) :
  Calls Tryz.prog 161 #[.agg #[.int .i64 f,.int .i64 k,.slice A v.length c],.pointer (some ⟨B,0,none⟩)] w (FillF B N a k v w):=by
 have hk:k=1∨k=2∨k=3∨k=4∨k=5∨k=6∨k=7∨k=8:=by omega
 rcases hk with rfl | rfl | rfl | rfl | rfl | rfl | rfl | rfl
 ·exact fill1 f A c v w B N a hA hv (by simpa [longB] using hl)
 ·exact fill2 f A c v w B N a hA hv hm
 ·exact fill3 f A c v w B N a hA hv (by simpa [longB] using hl)
 ·exact fill4 f A c v w B N a hA hv (by simpa [longB] using hl)
 ·exact fill5 f A c v w B N a hA hv (by simpa [longB] using hl)
 ·exact fill6 f A c v w B N a hA hv (by simpa [longB] using hl)
 ·exact fill7 f A c v w B N a hA hv (by simpa [longB] using hl)
 ·exact fill8 f A c v w B N a hA hv (by simpa [longB] using hl)
theorem or_pow {h:Int} {k:Nat} (h0:0≤h) (h5:h<512) (hk:k≤8) (hb:h / 2 ^ k % 2=0):bits .or .i64 h (2 ^ k)=h+2 ^ k:=by
 obtain ⟨x,rfl⟩:=Int.eq_ofNat_of_zero_le h0
 have h2:2 ^ k≤256:=Nat.le_trans (Nat.pow_le_pow_right (by omega) hk) (by decide)
 have e2:(BitVec.ofInt 64 (2 ^ k)).toNat=2 ^ k:=by
  rw [ofInt_nat]
  have h1:(2:Int) ^ k=((2 ^ k:Nat):Int):=by simp
  rw [h1]
  generalize 2 ^ k=y at h2
  omega
 have e1:(BitVec.ofInt 64 (x:Int)).toNat=x:=by rw [ofInt_nat];omega
 have hb2:x / 2 ^ k % 2=0:=by
  have hk2:k=0∨k=1∨k=2∨k=3∨k=4∨k=5∨k=6∨k=7∨k=8:=by omega
  rcases hk2 with rfl | rfl | rfl | rfl | rfl | rfl | rfl | rfl | rfl <;> simp only [Nat.reducePow,Int.reducePow] at hb ⊢ <;> omega
 show IntKind.i64.wrap ((BitVec.ofInt 64 (x:Int) ||| BitVec.ofInt 64 (2 ^ k)).toNat:Nat)=_
 rw [BitVec.toNat_or,e1,e2]
 have e3:x ||| 2 ^ k=x+2 ^ k:=by
  apply Nat.eq_of_testBit_eq
  intro i
  rw [Nat.testBit_or,Nat.testBit_two_pow]
  have h9:∀ y:Nat,y<512→∀ k:Nat,k<9→y / 2 ^ k % 2=0→y ||| 2 ^ k=y+2 ^ k:=by decide +kernel
  rw [← h9 x (by omega) k (by omega) hb2,Nat.testBit_or,Nat.testBit_two_pow]
 rw [e3,wrap_low (by omega)]
 simp
theorem sub_known {f k:Nat} {v:List Nat} (hk:¬ (k<1∨8<k)):subOf f k v=if ownF f k≠flagN k then 4 else if longB k v.length=false then 5 else fillN k v:=by
 unfold subOf fillN
 rw [if_neg hk]
 cases pathIs v <;> rfl
def putHas (a:At) (h:Int):At:=⟨h,a.origin,a.path,a.hop,a.med,a.pref,a.aas,a.aid,a.comms⟩
theorem lay_known {a:At} {k:Nat} {v:List Nat} (hk:¬ (k<1∨8<k)):layA a k v=fillA (putHas a (a.has+2 ^ k)) k v:=by
 unfold layA
 rw [if_neg hk];rfl
theorem BoxA.sethas {W:World} {B N:Nat} {a:At} (h:BoxA W B N a) (x:Int) (hx:(Lit.int .i64 x).wf=true):BoxA (W.setCell ⟨B,0,none⟩ (.int .i64 x)) B N (putHas a x):=by
 obtain ⟨h1,h2,Ap,np,cp,Ac,nc,cc,h3,h4,h5,h6⟩:=h
 exact ⟨⟨hx,h1.2⟩,⟨h2.1,by simpa using h2.2⟩,Ap,np,cp,Ac,nc,cc,h3.set0 _,segs_off h4 (off_set _ h2.1) (by simp),u32_off h5 h6 (off_set _ h2.1) (by simp),h6⟩
def ReadF (B N:Nat) (a:At) (f k:Nat) (v:List Nat) (w:World) (e:Ending) (w':World):Prop :=
 e=.returned (.int .i64 (subOf f k v:Nat))∧Only (fun q=>q=B) w w'∧(subOf f k v=0→BoxA w' B N (layA a k v))
theorem read_any (f k:Nat) (A:Option Addr) (c:Nat) (v:List Nat) (w:World) (B N:Nat) (a:At) (hA:BoxA w B N a) (hv:U8s w (.slice A v.length c) v) (hS:Shp w) (hf:f<256) (hm:v.length≤65535) (h0:0≤a.has) (h5:a.has<512) (hb:a.has / 2 ^ k % 2=0) :
  Calls Tryz.prog 138 #[.agg #[.int .i64 f,.int .i64 k,.slice A v.length c],.pointer (some ⟨B,0,none⟩)] w (ReadF B N a f k v w):=by
 have q3:=Box3.new w 161 (.int .i64 f) (.int .i64 k) (.slice A v.length c)
 have hb1:Below w.heap.size w (w.alloc (.cells #[.int .i64 f,.int .i64 k,.slice A v.length c] 161)):=(Below.refl _ _).alloc (Nat.le_refl _) _
 have Q0:=hid (And.intro q3 hb1)
 have HA:=hid hA
 have HU:=hid hv
 have HS:=hid hS
 obtain ⟨d0,d1,d2⟩:=q3.cells
 clear q3 hb1
 unfold ReadF
 by_cases hk:k<1∨8<k
 ·have CK:=hid (fun (W:World)=>show Calls Tryz.prog 158 #[.int .i64 k] W (Tells (.bool false) W) from by
   have h:=known_any (k:Int) W
   rw [show (decide ((1:Int)≤(k:Int)) && decide ((k:Int)≤8))=false by
    rcases hk with h | h
    ·rw [decide_eq_false (by omega)];rfl
    ·rw [decide_eq_false (show ¬ (k:Int)≤8 by omega)];simp] at h
   exact h)
  have HL:=hid (show layA a k v=a by unfold layA;rw [if_pos hk])
  have n128:=byte128 f hf
  by_cases hf2:f<128
  ·rw [if_pos hf2] at n128
   have HE:=hid (show subOf f k v=2 by unfold subOf;rw [if_pos hk,if_pos hf2])
   rw [HE.out]
   clear hk hf2 hf hA hv hS
   go_enter Tryz.func138,Tryz.ntmps138
   go_wp2_with (go_at_call 158;refine (CK.out _).mono ?_;rintro e x ⟨rfl,hx⟩;have Q1:=hid (And.intro (Q0.out.1.keep hx) (Q0.out.2.trans (hx.mono Q0.out.2.size)));clear hx d0 d1 d2;obtain ⟨d0,d1,d2⟩:=Q1.out.1.cells)
   go_ret
   exact ⟨rfl,Only.of Q1.out.2,fun hz=>by cases hz⟩
  ·rw [if_neg hf2] at n128
   have HE:=hid (show subOf f k v=0 by unfold subOf;rw [if_pos hk,if_neg hf2])
   rw [HE.out,HL.out]
   clear hk hf2 hf hA hv hS
   go_enter Tryz.func138,Tryz.ntmps138
   go_wp2_with (go_at_call 158;refine (CK.out _).mono ?_;rintro e x ⟨rfl,hx⟩;have Q1:=hid (And.intro (Q0.out.1.keep hx) (Q0.out.2.trans (hx.mono Q0.out.2.size)));clear hx d0 d1 d2;obtain ⟨d0,d1,d2⟩:=Q1.out.1.cells)
   go_ret
   exact ⟨rfl,Only.of Q1.out.2,fun hz=>HA.out.below Q1.out.2⟩
 ·have CK:=hid (fun (W:World)=>show Calls Tryz.prog 158 #[.int .i64 k] W (Tells (.bool true) W) from by
   have h:=known_any (k:Int) W
   rw [decide_eq_true (show (1:Int)≤(k:Int) by omega),decide_eq_true (show (k:Int)≤8 by omega)] at h
   exact h)
  have CF:=hid (fun (W:World) (h:Below w.heap.size w W)=>flagged_any f k (.slice A v.length c) W (HS.out.keep h) hf (by omega) (by omega))
  have CT:=hid (fun (W:World) (h:Below w.heap.size w W)=>fits_any k v.length W (HS.out.keep h) (by omega) (by omega) (by omega))
  have CI:=hid (fun (W:World) (a:At) (h:BoxA W B N a) (hu:U8s W (.slice A v.length c) v) (hl:longB k v.length=true)=>fill_any f k A c v W B N a h hu (by omega) (by omega) hl hm)
  rw [sub_known hk]
  by_cases hfl:ownF f k=flagN k
  ·rw [if_neg (fun h=>h hfl)]
   rw [decide_eq_true hfl] at CF
   cases hlg:longB k v.length with
   | false =>
    rw [hlg] at CT
    rw [if_pos rfl]
    clear hk hf hA hv hS hlg hfl
    go_enter Tryz.func138,Tryz.ntmps138
    go_wp2_with (first
     | (go_at_call 158;refine (CK.out _).mono ?_;rintro e x ⟨rfl,hx⟩;have Q1:=hid (And.intro (Q0.out.1.keep hx) (Q0.out.2.trans (hx.mono Q0.out.2.size)));clear hx d0 d1 d2 Q0;obtain ⟨d0,d1,d2⟩:=Q1.out.1.cells)
     | (go_at_call 159;refine (CF.out _ Q1.out.2).mono ?_;rintro e x ⟨rfl,hx⟩;have Q2:=hid (And.intro (Q1.out.1.keep hx) (Q1.out.2.trans (hx.mono Q1.out.2.size)));clear hx d0 d1 d2 Q1;obtain ⟨d0,d1,d2⟩:=Q2.out.1.cells)
     | (go_at_call 160;refine (CT.out _ Q2.out.2).mono ?_;rintro e x3 ⟨rfl,hx⟩;have Q3:=hid (And.intro (Q2.out.1.keep hx) (Q2.out.2.trans (hx.mono Q2.out.2.size)));clear hx d0 d1 d2 Q2;obtain ⟨d0,d1,d2⟩:=Q3.out.1.cells))
    go_ret
    exact ⟨rfl,Only.of Q3.out.2,fun hz=>by cases hz⟩
   | true =>
    rw [hlg] at CT
    rw [if_neg (by decide)]
    have HW:=hid (show (Lit.int .i64 (a.has+2 ^ k)).wf=true by
     have h2:2 ^ k≤256:=Nat.le_trans (Nat.pow_le_pow_right (by omega) (show k≤8 by omega)) (by decide)
     have h1:(2:Int) ^ k=((2 ^ k:Nat):Int):=by simp
     rw [h1]
     generalize 2 ^ k=y at h2
     simp [Lit.wf,IntKind.min,IntKind.max,IntKind.signed,IntKind.bits];omega)
    have HO:=hid (show bits .or .i64 a.has (wrap64 (2 ^ min k 64))=a.has+2 ^ k by
     rw [Nat.min_eq_left (show k≤64 by omega)]
     have e:wrap64 ((2:Int) ^ k)=2 ^ k:=by
      have h1:(2:Int) ^ k=((2 ^ k:Nat):Int):=by simp
      have h2:2 ^ k≤256:=Nat.le_trans (Nat.pow_le_pow_right (by omega) (show k≤8 by omega)) (by decide)
      rw [h1]
      generalize 2 ^ k=y at h2
      unfold wrap64;omega
     rw [e]
     exact or_pow h0 h5 (by omega) hb)
    have z0:(0:Int)≤(k:Int):=by omega
    have HLA:=hid (show layA a k v=fillA (putHas a (a.has+2 ^ k)) k v from lay_known hk)
    rw [HLA.out]
    have HLG:=hid hlg
    have hB:=hA.lt
    clear hk hf hA hv hS hlg hfl h0 h5 hb
    go_enter Tryz.func138,Tryz.ntmps138
    go_wp2_with (first
     | (go_at_call 158;refine (CK.out _).mono ?_;rintro e x ⟨rfl,hx⟩;have Q1:=hid (And.intro (Q0.out.1.keep hx) (Q0.out.2.trans (hx.mono Q0.out.2.size)));clear hx d0 d1 d2 Q0;obtain ⟨d0,d1,d2⟩:=Q1.out.1.cells)
     | (go_at_call 159;refine (CF.out _ Q1.out.2).mono ?_;rintro e x ⟨rfl,hx⟩;have Q2:=hid (And.intro (Q1.out.1.keep hx) (Q1.out.2.trans (hx.mono Q1.out.2.size)));clear hx d0 d1 d2 Q1;obtain ⟨d0,d1,d2⟩:=Q2.out.1.cells)
     | (go_at_call 160;refine (CT.out _ Q2.out.2).mono ?_;rintro e x3 ⟨rfl,hx⟩;have Q3:=hid (And.intro (Q2.out.1.keep hx) (Q2.out.2.trans (hx.mono Q2.out.2.size)));clear hx d0 d1 d2 Q2;obtain ⟨d0,d1,d2⟩:=Q3.out.1.cells))
    have QD:=hid (And.intro (Q3.out.1.keep (Below.refl _ _).drew) (Q3.out.2.trans ((Below.refl _ x3).drew.mono Q3.out.2.size)))
    have A3:=hid (HA.out.below QD.out.2)
    clear d0 d1 d2
    obtain ⟨d0,d1,d2⟩:=QD.out.1.cells
    obtain ⟨-,-,Ap,np,cp,Ac,nc,cc,b9,-,-,-⟩:=A3.out
    obtain ⟨-,-,Ap0,np0,cp0,Ac0,nc0,cc0,b90,-,-,-⟩:=HA.out
    have HA9:=hid b90
    clear b90
    obtain ⟨c0,-⟩:=b9.cells
    have fB:=b9.free
    clear b9
    go_region
    rw [HO.out]
    clear d0 d1 d2 c0 fB
    have A4:=hid (((HA.out.below Q3.out.2).sethas (a.has+2 ^ k) HW.out).below (Below.refl _ _).drew)
    have D4:=hid ((Q3.out.1.far (i:=0) (show w.heap.size≠B by omega) (.int .i64 (a.has+2 ^ k))).keep (Below.refl _ _).drew)
    have O4:=hid (((Only.of (F:=fun q=>q=B) Q3.out.2).set (i:=0) rfl (.int .i64 (a.has+2 ^ k))).drew)
    obtain ⟨W4,hW4⟩:∃ W4,W4=(x3.setCell ⟨B,0,none⟩ (.int .i64 (a.has+2 ^ k))).drew:=⟨_,rfl⟩
    rw [← hW4] at A4 D4 O4 ⊢
    clear hW4
    have CIW:=hid (CI.out W4 _ A4.out (u8_only HU.out (HA9.out.no8 n9) O4.out) HLG.out)
    obtain ⟨d0,d1,d2⟩:=D4.out.cells
    go_wp2_with (go_at_call 161;(refine (CIW.out).mono ?_;rintro e x ⟨rfl,ho5,hg5⟩;have R5:=hid (And.intro (O4.out.trans ho5) hg5);clear ho5 hg5))
    go_ret
    exact ⟨rfl,R5.out.1,R5.out.2⟩
  ·rw [if_pos hfl]
   rw [decide_eq_false hfl] at CF
   clear hk hf hA hv hS hfl
   go_enter Tryz.func138,Tryz.ntmps138
   go_wp2_with (first
    | (go_at_call 158;refine (CK.out _).mono ?_;rintro e x ⟨rfl,hx⟩;have Q1:=hid (And.intro (Q0.out.1.keep hx) (Q0.out.2.trans (hx.mono Q0.out.2.size)));clear hx d0 d1 d2 Q0;obtain ⟨d0,d1,d2⟩:=Q1.out.1.cells)
    | (go_at_call 159;refine (CF.out _ Q1.out.2).mono ?_;rintro e x ⟨rfl,hx⟩;have Q2:=hid (And.intro (Q1.out.1.keep hx) (Q1.out.2.trans (hx.mono Q1.out.2.size)));clear hx d0 d1 d2 Q1;obtain ⟨d0,d1,d2⟩:=Q2.out.1.cells))
   go_ret
   exact ⟨rfl,Only.of Q2.out.2,fun hz=>by cases hz⟩
end Att
namespace Att
open Segm Rise Oct
theorem item_facts {l:List Nat} {x:Item} (hs:Small l) (h:itemOf l=some x):x.f<256∧x.k<256∧x.v.length≤65535∧(255<x.v.length→x.f / 16 % 2=1)∧Small x.v∧Small x.r∧x.r.length+3≤l.length∧x.r.length+x.v.length≤l.length:=by
 match l,hs,h with
 | [],_,h=>simp [itemOf] at h
 | [_],_,h=>simp [itemOf] at h
 | f :: k :: r,hs,h =>
  have hf:=hs f (by simp)
  have hk:=hs k (by simp)
  have hr:Small r:=fun n hn=>hs n (by simp [hn])
  unfold itemOf at h
  dsimp only at h
  by_cases hl:f / 16 % 2=1
  ·rw [if_pos hl] at h
   match r,hr,h with
   | [],_,h=>simp at h
   | [_],_,h=>simp at h
   | n1 :: n0 :: r2,hr,h =>
    have h1:=hr n1 (by simp)
    have h0:=hr n0 (by simp)
    have h2:Small r2:=fun n hn=>hr n (by simp [hn])
    dsimp only at h
    split at h
    ·injection h with h
     subst h
     dsimp only
     refine ⟨hf,hk,?_,fun _=>hl,h2.take _,h2.drop _,?_,?_⟩ <;> simp only [List.length_take,List.length_drop,List.length_cons] <;> omega
    ·cases h
  ·rw [if_neg hl] at h
   match r,hr,h with
   | [],_,h=>simp at h
   | n0 :: r2,hr,h =>
    have h0:=hr n0 (by simp)
    have h2:Small r2:=fun n hn=>hr n (by simp [hn])
    dsimp only at h
    split at h
    ·injection h with h
     subst h
     dsimp only
     refine ⟨hf,hk,?_,fun hh=>?_,h2.take _,h2.drop _,?_,?_⟩
     ·simp only [List.length_take];omega
     ·simp only [List.length_take] at hh;omega
     ·simp only [List.length_drop,List.length_cons];omega
     ·simp only [List.length_take,List.length_drop,List.length_cons];omega
    ·cases h
theorem decA_fuel:∀ (n m:Nat) (seen:List Nat) (a:At) (l:List Nat),Small l→l.length≤n→l.length≤m→decA n seen a l=decA m seen a l
 | 0,0,_,_,_,_,_,_=>rfl
 | 0,m+1,seen,a,l,_,h,_=>by
  obtain rfl:l=[]:=List.eq_nil_of_length_eq_zero (by omega)
  rfl
 | n+1,0,seen,a,l,_,_,h=>by
  obtain rfl:l=[]:=List.eq_nil_of_length_eq_zero (by omega)
  rfl
 | n+1,m+1,seen,a,l,hs,hn,hm=>by
  unfold decA
  cases hi:itemOf l with
  | none=>rfl
  | some x =>
   dsimp only
   obtain ⟨-,-,-,-,-,h6,h7,-⟩:=item_facts hs hi
   rw [decA_fuel n m (x.k :: seen) (layA a x.k x.v) x.r h6 (by omega) (by omega)]
def decF (seen:List Nat) (a:At) (l:List Nat):No ⊕ At:=decA l.length seen a l
theorem decF_none {seen:List Nat} {a:At} {l:List Nat} (hne:l≠[]) (h:itemOf l=none):decF seen a l=.inl ⟨3,1,[]⟩:=by
 unfold decF
 obtain ⟨n,hn⟩:∃ n,l.length=n+1:=⟨l.length - 1,by have:=List.length_pos_iff.2 hne;omega⟩
 rw [hn]
 unfold decA
 rw [if_neg hne,h]
theorem decF_some {seen:List Nat} {a:At} {l:List Nat} {x:Item} (hs:Small l) (h:itemOf l=some x) :
  decF seen a l=if x.k∈seen then .inl ⟨3,1,[]⟩ else if subOf x.f x.k x.v=0 then decF (x.k :: seen) (layA a x.k x.v) x.r else .inl (badN (subOf x.f x.k x.v) x):=by
 have hne:l≠[]:=fun e=>by subst e;cases h
 obtain ⟨-,-,-,-,-,h6,h7,-⟩:=item_facts hs h
 obtain ⟨n,hn⟩:∃ n,l.length=n+1:=⟨l.length - 1,by omega⟩
 have e:=decA_fuel n x.r.length (x.k :: seen) (layA a x.k x.v) x.r h6 (by omega) (Nat.le_refl _)
 have hh:decA (n+1) seen a l=if l=[] then .inr (normA a) else match itemOf l with
  | none=>.inl ⟨3,1,[]⟩
  | some x=>if x.k∈seen then .inl ⟨3,1,[]⟩ else if subOf x.f x.k x.v=0 then decA n (x.k :: seen) (layA a x.k x.v) x.r else .inl (badN (subOf x.f x.k x.v) x):=rfl
 show decA l.length seen a l=_
 rw [hn,hh,if_neg hne,h]
 dsimp only
 rw [e]
 rfl
structure Fine (seen:List Nat) (a:At):Prop where
 h0:0≤a.has
 h5:a.has<512
 free:∀ k:Nat,k≤8→k ∉ seen→a.has / 2 ^ k % 2=0
 zero:a.has % 2=0
 bk:bulk a.path≤40000
 fit:FitS 4999 a.path
 cm:a.comms.length<5000
theorem fine_zero:Fine [] zeroA:=⟨by decide,by decide,fun k _ _=>by simp [zeroA],by decide,by decide,(fun s hs=>by cases hs),by decide⟩
theorem div_add_pow {h:Int} {j k:Nat} (hj:j≤8) (hk:k≤8) (hb:h / 2 ^ k % 2=0) (hne:j≠k):(h+2 ^ k) / 2 ^ j % 2=h / 2 ^ j % 2:=by
 have hj2:j=0∨j=1∨j=2∨j=3∨j=4∨j=5∨j=6∨j=7∨j=8:=by omega
 have hk2:k=0∨k=1∨k=2∨k=3∨k=4∨k=5∨k=6∨k=7∨k=8:=by omega
 rcases hk2 with rfl | rfl | rfl | rfl | rfl | rfl | rfl | rfl | rfl <;> rcases hj2 with rfl | rfl | rfl | rfl | rfl | rfl | rfl | rfl | rfl <;> simp only [Int.reducePow] at hb ⊢ <;> first | omega | exact absurd rfl hne
theorem add_pow_lt {h:Int} {k:Nat} (h0:0≤h) (h5:h<512) (hk:k≤8) (hb:h / 2 ^ k % 2=0):h+2 ^ k<512:=by
 have hk2:k=0∨k=1∨k=2∨k=3∨k=4∨k=5∨k=6∨k=7∨k=8:=by omega
 rcases hk2 with rfl | rfl | rfl | rfl | rfl | rfl | rfl | rfl | rfl <;> simp only [Int.reducePow] at hb ⊢ <;> omega
theorem Fine.lay {seen:List Nat} {a:At} (h:Fine seen a) {f k:Nat} {v:List Nat} (hs:Small v) (hl:v.length≤65535) (hk:k ∉ seen) (hsub:subOf f k v=0):Fine (k :: seen) (layA a k v):=by
 by_cases hu:k<1∨8<k
 ·rw [show layA a k v=a by unfold layA;rw [if_pos hu]]
  exact ⟨h.h0,h.h5,fun j hj hn=>h.free j hj (fun hm=>hn (by simp [hm])),h.zero,h.bk,h.fit,h.cm⟩
 ·have hb:=h.free k (by omega) hk
  have hp:(0:Int)<2 ^ k:=by
   have h1:(2:Int) ^ k=((2 ^ k:Nat):Int):=by simp
   have:=Nat.two_pow_pos k
   omega
  have e:(layA a k v).has=a.has+2 ^ k:=by unfold layA;rw [if_neg hu]
  have ep:(layA a k v).path=if k=2 then (pathIs v).getD [] else a.path:=by unfold layA;rw [if_neg hu]
  have ec:(layA a k v).comms=if k=8 then quads v else a.comms:=by unfold layA;rw [if_neg hu]
  have hq:∀ p,pathIs v=some p→bulk p≤40000∧FitS 4999 p:=fun p hp=>by
   obtain ⟨h1,h2⟩:=pathIs_len hs hp
   exact ⟨by rw [bulk_is];omega,fun s hs=>Nat.le_trans (h2 s hs) (by decide)⟩
  have hq2:bulk ((pathIs v).getD [])≤40000∧FitS 4999 ((pathIs v).getD []):=by
   cases hh:pathIs v with
   | none=>exact ⟨Nat.zero_le _,fun s hs=>by cases hs⟩
   | some p=>exact hq p hh
  refine ⟨by rw [e];have:=h.h0;omega,by rw [e];exact add_pow_lt h.h0 h.h5 (by omega) hb,fun j hj hn=>?_,?_,?_,?_,?_⟩
  ·rw [e]
   have hne:j≠k:=fun e2=>hn (by simp [e2])
   rw [div_add_pow hj (by omega) hb hne]
   exact h.free j hj (fun hm=>hn (by simp [hm]))
  ·rw [e]
   have h1:=div_add_pow (j:=0) (by omega) (show k≤8 by omega) hb (by omega)
   simp only [Int.pow_zero,Int.ediv_one] at h1
   rw [h1]
   exact h.zero
  ·rw [ep];split;exact hq2.1;exact h.bk
  ·rw [ep];split;exact hq2.2;exact h.fit
  ·rw [ec]
   split
   ·rename_i h8
    subst h8
    unfold subOf at hsub
    rw [if_neg hu] at hsub
    split at hsub
    ·cases hsub
    ·split at hsub
     ·cases hsub
     ·rename_i h9
      have h9':longB 8 v.length=true:=by simpa using h9
      have h10:v.length % 4=0∧v.length≤1020:=by simpa [longB] using h9'
      unfold quads
      rw [quadsN_len]
      omega
   ·exact h.cm
end Att
namespace Att
open Go.RowKit Mem Segm Oct Seg Nums
structure InSt (wr:World) (k:Int) (A:Option Addr) (c i:Nat) (ns:List Nat) (W:World):Prop where
 blk:W.heap[wr.heap.size]?=some (.cells #[.int .i64 k,.slice A i c] 108)
 own:W.ownsRow (wr.heap.size+1) 22 1 (.slice A i c) i (ns.map fun n:Nat=>Value.int .u32 n)
 low:Below wr.heap.size wr W
section
variable {wr W W2:World} {k:Int} {A:Option Addr} {c i:Nat} {ns:List Nat}
theorem InSt.lt (h:InSt wr k A c i ns W):wr.heap.size<W.heap.size:=(Array.getElem?_eq_some_iff.1 h.blk).1
theorem InSt.below (h:InSt wr k A c i ns W) (hb:Below W.heap.size W W2):InSt wr k A c i ns W2 :=
 ⟨(hb.block _ h.lt).trans h.blk,own_keep h.own hb,h.low.trans (hb.mono h.low.size)⟩
theorem InSt.start (wr:World) (k:Int):InSt wr k none 0 0 [] (wr.alloc (.cells #[.int .i64 k,.slice none 0 0] 108)) :=
 ⟨heap_alloc_new _ _,World.ownsRow_nil _ _ _ _,(Below.refl _ _).alloc (Nat.le_refl _) _⟩
theorem InSt.blk8 {W8:World} {o:Obj} (h:InSt wr k A c i ns W) (hb:Below (wr.heap.size+1) (W.alloc o) W8):W8.heap[wr.heap.size]?=some (.cells #[.int .i64 k,.slice A i c] 108) :=
 (hb.block _ (by omega)).trans ((((Below.refl W.heap.size W).alloc (Nat.le_refl _) o).block _ h.lt).trans h.blk)
theorem InSt.push {W8:World} {o:Obj} {A4:Option Addr} {c4 y:Nat} (h:InSt wr k A c i ns W) (hb:Below (wr.heap.size+1) (W.alloc o) W8)
  (ho:W8.ownsRow (wr.heap.size+1) 22 1 (.slice A4 (i+1) c4) (i+1) ((ns.map fun n:Nat=>Value.int .u32 n) ++ [.int .u32 y])) :
  InSt wr k A4 c4 (i+1) (ns ++ [y]) (W8.setCell ⟨wr.heap.size,1,none⟩ (.slice A4 (i+1) c4)):=by
 refine ⟨set1 _ (h.blk8 hb),?_,?_⟩
 ·rw [List.map_append]
  exact own_off ho (fun q hq=>Go.RowKit.Below.heap_setCell _ _ _ _ (by show q≠wr.heap.size;omega))
 ·have h1:=(Below.refl W.heap.size W).alloc (Nat.le_refl _) o
  exact ((h.low.trans (h1.mono h.low.size)).trans (hb.mono (by omega))).setCell (p:=⟨wr.heap.size,1,none⟩) (Nat.le_refl _) _
end
theorem own_new {W:World} {base n:Nat} {e:TypeId} {size m:Nat} {v:Value} {xs:List Value} (h:W.ownsRow base e size v m xs) (hn:n≤base):NewAt n v:=fun b off m' c e' h0=>Nat.le_trans hn (h.lt b (by rw [e'];rfl)).1
theorem wrap_sum2 {j i t:Nat} (h:t=j+2+4*i) (hb:t≤1000000):IntKind.i64.wrap (IntKind.i64.wrap ((j:Int)+2)+IntKind.i64.wrap (4*(i:Int)))=(t:Int):=by
 simp only [IntKind.wrap_i64];omega
theorem wrap_sum6 {j i t:Nat} (h:t=j+2+4*i) (hb:t≤1000000) {t4:Nat} (h4:t4=t+4):IntKind.i64.wrap (IntKind.i64.wrap ((j:Int)+6)+IntKind.i64.wrap (4*(i:Int)))=(t4:Int):=by
 simp only [IntKind.wrap_i64];omega
theorem refPath_any (v:Value) (b:List Nat) (w:World) (hv:U8s w v b) (hl:b.length≤100000):Calls Tryz.prog 166 #[v] w (PathF b w):=by
 obtain ⟨ie,E⟩:=elemSeg
 obtain ⟨i3,E3⟩:=elem32
 obtain ⟨Ab,cb,rfl,hlc,hcc⟩:=hv.form
 have HU:=hid hv
 have CN:=hid (fun (v:Value) (i:Nat) (W:World) (h:U8s W v ((b.drop i).take 4))=>num_any v _ W h (List.length_take_le _ _))
 have ST0:=hid (show OwnSegsF 108 w.heap.size w.heap.size (w.alloc (.cells #[] 108)) (.slice (some ⟨w.heap.size,0,none⟩) 0 0) []∧Below w.heap.size w (w.alloc (.cells #[] 108)) from ⟨⟨[],World.ownsRow_lit (base:=w.heap.size) (e:=108) (size:=2) w #[] 0 (Nat.le_refl _) (Nat.zero_le _) rfl,Nums32.nil _,(fun x hx=>by cases hx),FreshQ.nil _⟩,(Below.refl _ _).alloc (Nat.le_refl _) _⟩)
 clear hv
 go_enter Tryz.func166,Tryz.ntmps166
 go_wp2
 go_loopw [4,5] (fun v4 v5 wx=>∃ (j:Nat) (p:List Piece) (A:Option Addr) (c:Nat),v4=.slice A p.length c∧v5=.int .i64 j∧Hid (j≤b.length∧p.length≤j∧pathIs b=(pathIs (b.drop j)).map fun l=>p ++ l)∧Hid (OwnSegsF 108 w.heap.size w.heap.size wx (.slice A p.length c) p∧Below w.heap.size w wx)) (fun _ v5 _=>b.length - (intOf v5).toNat)
 case atStart=>exact ⟨0,[],some ⟨w.heap.size,0,none⟩,0,rfl,rfl,hid ⟨Nat.zero_le _,Nat.zero_le _,by simp⟩,ST0⟩
 case round =>
  obtain ⟨j,p,A,c,rfl,rfl,HI,ST⟩:=hrel
  have hj:=HI.out.1
  have hpj:=HI.out.2.1
  by_cases hlt:j<b.length
  ·have z1:(j:Int)<(b.length:Int):=by omega
   by_cases h2:j+2≤b.length
   ·have z2:decide ((b.length:Int)<(j:Int)+2)=false:=decide_eq_false (by omega)
    obtain ⟨blk,off,a,k,rfl,hbl,ha,ha8,ca0,hk,hk8,ck0⟩:=two_at HU.out (k:=j) (by omega)
    have CK:=hid (fun (W:World) (h:Below w.heap.size w W)=>And.intro (keeps h ca0) (keeps h ck0))
    clear ca0 ck0
    obtain ⟨ca,ck⟩:=CK.out _ ST.out.2
    have HD:=hid (drop_two ha hk)
    have HRL:=hid (show (b.drop (j+2)).length=b.length - (j+2) by rw [List.length_drop])
    have z3:(0:Int)≤(j:Int)+1:=by omega
    have z4:(j:Int)+1<(b.length:Int):=by omega
    have z5:(0:Int)≤(j:Int):=by omega
    clear ha hk
    by_cases a0:a=0
    ·subst a0
     go_wp2
     go_ret2
     refine ⟨ST.out.2,?_⟩
     rw [HI.out.2.2,HD.out,pathIs_step,if_neg (by first | omega | (rw [HRL.out];omega))]
     rfl
    by_cases a3:2<a
    ·have y1:decide ((a:Int)<1)=false:=decide_eq_false (by omega)
     have y2:(a:Int) > 2:=by omega
     go_wp2
     go_ret2
     refine ⟨ST.out.2,?_⟩
     rw [HI.out.2.2,HD.out,pathIs_step,if_neg (by first | omega | (rw [HRL.out];omega))]
     rfl
    have y1:decide ((a:Int)<1)=false:=decide_eq_false (by omega)
    have y2:decide ((2:Int)<(a:Int))=false:=decide_eq_false (by omega)
    by_cases k0:k=0
    ·subst k0
     go_wp2
     go_ret2
     refine ⟨ST.out.2,?_⟩
     rw [HI.out.2.2,HD.out,pathIs_step,if_neg (by first | omega | (rw [HRL.out];omega))]
     rfl
    have y3:((k:Int) == 0)=false:=by simp;omega
    by_cases k4:j+2+4*k≤b.length
    ·have y4:decide ((b.length:Int)<(j:Int)+2+4*(k:Int))=false:=decide_eq_false (by omega)
     obtain ⟨W0,rfl⟩:∃ W0,W0=wr:=⟨_,rfl⟩
     have hps:=HI.out.2.1
     go_wp2
     go_loopw [7] (fun v7 wx=>∃ (i:Nat) (An:Option Addr) (cn:Nat),i≤k∧v7=.int .i64 i∧Hid (InSt W0 (a:Int) An cn i (quadsN (b.drop (j+2)) i) wx)) (fun v7 _=>k - (intOf v7).toNat)
     case atStart=>exact ⟨0,none,0,Nat.zero_le _,rfl,hid (InSt.start W0 a)⟩
     case round =>
      obtain ⟨i,An,cn,hi,rfl,IS⟩:=hrel
      clear ca ck
      have HB:=hid (ST.out.2.trans (IS.out.low.mono ST.out.2.size))
      obtain ⟨ca,ck⟩:=CK.out _ HB.out
      obtain ⟨s0,s1⟩:=cell0 IS.out.blk
      obtain ⟨f0,f1⟩:=free0 IS.out.blk
      by_cases hik:i<k
      ·have z6:(i:Int)<(k:Int):=by omega
       obtain ⟨t,ht⟩:∃ t,t=j+2+4*i:=⟨_,rfl⟩
       obtain ⟨t4,ht4⟩:∃ t4,t4=t+4:=⟨_,rfl⟩
       have HM:=hid (show U8s wr.drew (.slice (some ⟨blk,off+t,none⟩) (t4 - t) (cb - t)) ((b.drop t).take 4) by
        have h:=mid8 ((HU.out.keep HB.out).keep (Below.refl _ _).drew) (i:=t) (by omega)
        rw [ht4,show t+4 - t=4 by omega]
        exact h)
       have HQ:=hid (show quadsN (b.drop (j+2)) (i+1)=quadsN (b.drop (j+2)) i ++ [val ((b.drop t).take 4)] by rw [quadsN_succ,List.drop_drop,ht])
       have z7:(0:Int)≤(t:Int):=by omega
       have z8:(t4:Int)≤(b.length:Int):=by omega
       have z9:(t4:Int)≤(cb:Int):=by omega
       have z10:¬ cb=t:=by omega
       have z11:(0:Int)≤(t4:Int):=by omega
       have z12:(t:Int)≤(t4:Int):=by omega
       have e1:=wrap_sum2 (j:=j) (i:=i) (t:=t) (by omega) (by omega)
       have e2:=wrap_sum6 (j:=j) (i:=i) (t:=t) (by omega) (by omega) ht4
       clear ht4
       clear ht
       replace IS:=hid (IS.out.below (Below.refl _ _).drew)
       clear s0 s1 f0 f1
       obtain ⟨s0,s1⟩:=cell0 IS.out.blk
       obtain ⟨f0,f1⟩:=free0 IS.out.blk
       go_wp2
       refine wp_region_held_drew (S:=fun _=>True) (by kernel_rfl) trivial (fun hHeld1=>?_)
       refine Take.tk 0 71 hHeld1 ?_
       refine Take.tk 2 73 hHeld1 ?_
       refine Take.tk 3 74 hHeld1 ?_
       try simp only [Act.put,Take.nm]
       refine Take.tk 4 75 hHeld1 ?_
       refine Take.tk 5 76 hHeld1 ?_
       refine Take.tk 6 77 hHeld1 ?_
       try simp only [Act.put,Take.nm]
       refine Take.tk 7 78 hHeld1 ?_
       refine Take.tk 8 79 hHeld1 ?_
       refine Take.tk 9 80 hHeld1 ?_
       try simp only [Act.put,Take.nm]
       refine Take.tk 10 81 hHeld1 ?_
       refine Take.tk 11 82 hHeld1 ?_
       refine Take.tk 12 83 hHeld1 ?_
       try simp only [Act.put,Take.nm]
       refine Take.tk 13 84 hHeld1 ?_
       refine wpAnyH_ready (rs:=[1,14]) (by kernel_rfl) (by simp) ?_
       refine AllReadyH.cons (o:=_) (by rfl) (fun K hK=>?_) (AllReadyH.cons (o:=_) (by rfl) (fun K hK=>?_) AllReadyH.nil)
       ·go_simp
        refine hK.out _ _ trivial (fun hHeld2=>?_)
        clear hK K
        try simp only [Act.put,Take.nm]
        refine wpAnyH_ready (rs:=[14]) (by kernel_rfl) (by simp) ?_
        refine AllReadyH.cons (o:=_) (by rfl) (fun K hK=>?_) AllReadyH.nil
        go_simp
        go_at_call 95
        refine (CN.out _ t _ HM.out).mono ?_
        rintro e x ⟨rfl,hx⟩
        replace IS:=hid (IS.out.below hx)
        clear hx s0 s1 f0 f1
        obtain ⟨s0,s1⟩:=cell0 IS.out.blk
        (try go_wp2_with fail)
        refine hK.out _ _ trivial (fun hHeld3=>?_)
        clear hK K
        try simp only [Act.put,Take.nm]
        refine wpAnyH_ready (rs:=[15]) (by kernel_rfl) (by simp) ?_
        refine AllReadyH.cons (o:=_) (by rfl) (fun K hK=>?_) AllReadyH.nil
        go_simp
        refine hK.out _ _ trivial (fun hHeld4=>?_)
        clear hK K
        try simp only [Act.put,Take.nm]
        have b9:=(Below.refl x.heap.size x).alloc (Nat.le_refl _) (.cells #[.int .u32 (val ((b.drop t).take 4):Nat)] 22)
        replace s1:=keeps b9 s1
        refine wpAnyH_ready (rs:=[16]) (by kernel_rfl) (by simp) ?_
        refine AllReadyH.cons (o:=_) (by rfl) (fun K hK=>?_) AllReadyH.nil
        refine step_append_row (by rfl) (.tmp 72) (.tmp 86) (by rfl) E3 (W0.heap.size+1) (.slice An i cn) i ((quadsN (b.drop (j+2)) i).map fun n:Nat=>Value.int .u32 n) (by rfl) ?_ _ 1 [.int .u32 (val ((b.drop t).take 4):Nat)] (by rfl) ?_ (one_u32 _) ?_ ?_ ?_ (i+1) (by rfl) ?_
        ·exact own_keep IS.out.own b9
        ·exact Row.one _ _ _
        ·unfold maxLen;omega
        ·omega
        ·have:=IS.out.lt;simp;omega
        intro A4 c4 w8 hown4 hg4 hat4 hb4
        have IS8:=hid (IS.out.push hb4 hown4)
        have B8:=hid (IS.out.blk8 hb4)
        clear hown4 hg4 hat4 hb4 s0 s1
        obtain ⟨s0,s1⟩:=cell0 B8.out
        obtain ⟨f0,f1⟩:=free0 B8.out
        refine hK.out _ _ trivial (fun hHeld6=>?_)
        clear hK K
        try simp only [Act.put,Take.nm]
        refine Take.tk 17 88 hHeld6 ?_
        refine wpAnyH_ready (rs:=[18]) (by kernel_rfl) (by simp) ?_
        refine AllReadyH.cons (o:=_) (by rfl) (fun K hK=>?_) AllReadyH.nil
        go_simp
        refine hK.out _ _ trivial (fun hHeld7=>?_)
        clear hK K
        try simp only [Act.put,Take.nm]
        refine wpAnyH_done (by kernel_rfl) ?_ _
        go_wp2
        go_roundw
        case rel=>exact ⟨i+1,A4,c4,by omega,by go_num,hid (by rw [HQ.out];exact IS8.out)⟩
        case measure=>simp [intOf];omega
       ·go_simp
        go_at_call 95
        refine (CN.out _ t _ HM.out).mono ?_
        rintro e x ⟨rfl,hx⟩
        replace IS:=hid (IS.out.below hx)
        clear hx s0 s1 f0 f1
        obtain ⟨s0,s1⟩:=cell0 IS.out.blk
        (try go_wp2_with fail)
        refine hK.out _ _ trivial (fun hHeld8=>?_)
        clear hK K
        try simp only [Act.put,Take.nm]
        refine wpAnyH_ready (rs:=[1,15]) (by kernel_rfl) (by simp) ?_
        refine AllReadyH.cons (o:=_) (by rfl) (fun K hK=>?_) (AllReadyH.cons (o:=_) (by rfl) (fun K hK=>?_) AllReadyH.nil)
        ·go_simp
         refine hK.out _ _ trivial (fun hHeld9=>?_)
         clear hK K
         try simp only [Act.put,Take.nm]
         refine wpAnyH_ready (rs:=[15]) (by kernel_rfl) (by simp) ?_
         refine AllReadyH.cons (o:=_) (by rfl) (fun K hK=>?_) AllReadyH.nil
         go_simp
         refine hK.out _ _ trivial (fun hHeld10=>?_)
         clear hK K
         try simp only [Act.put,Take.nm]
         have b9:=(Below.refl x.heap.size x).alloc (Nat.le_refl _) (.cells #[.int .u32 (val ((b.drop t).take 4):Nat)] 22)
         replace s1:=keeps b9 s1
         refine wpAnyH_ready (rs:=[16]) (by kernel_rfl) (by simp) ?_
         refine AllReadyH.cons (o:=_) (by rfl) (fun K hK=>?_) AllReadyH.nil
         refine step_append_row (by rfl) (.tmp 72) (.tmp 86) (by rfl) E3 (W0.heap.size+1) (.slice An i cn) i ((quadsN (b.drop (j+2)) i).map fun n:Nat=>Value.int .u32 n) (by rfl) ?_ _ 1 [.int .u32 (val ((b.drop t).take 4):Nat)] (by rfl) ?_ (one_u32 _) ?_ ?_ ?_ (i+1) (by rfl) ?_
         ·exact own_keep IS.out.own b9
         ·exact Row.one _ _ _
         ·unfold maxLen;omega
         ·omega
         ·have:=IS.out.lt;simp;omega
         intro A4 c4 w8 hown4 hg4 hat4 hb4
         have IS8:=hid (IS.out.push hb4 hown4)
         have B8:=hid (IS.out.blk8 hb4)
         clear hown4 hg4 hat4 hb4 s0 s1
         obtain ⟨s0,s1⟩:=cell0 B8.out
         obtain ⟨f0,f1⟩:=free0 B8.out
         refine hK.out _ _ trivial (fun hHeld12=>?_)
         clear hK K
         try simp only [Act.put,Take.nm]
         refine Take.tk 17 88 hHeld12 ?_
         refine wpAnyH_ready (rs:=[18]) (by kernel_rfl) (by simp) ?_
         refine AllReadyH.cons (o:=_) (by rfl) (fun K hK=>?_) AllReadyH.nil
         go_simp
         refine hK.out _ _ trivial (fun hHeld13=>?_)
         clear hK K
         try simp only [Act.put,Take.nm]
         refine wpAnyH_done (by kernel_rfl) ?_ _
         go_wp2
         go_roundw
         case rel=>exact ⟨i+1,A4,c4,by omega,by go_num,hid (by rw [HQ.out];exact IS8.out)⟩
         case measure=>simp [intOf];omega
        ·go_simp
         refine hK.out _ _ trivial (fun hHeld14=>?_)
         clear hK K
         try simp only [Act.put,Take.nm]
         have b9:=(Below.refl x.heap.size x).alloc (Nat.le_refl _) (.cells #[.int .u32 (val ((b.drop t).take 4):Nat)] 22)
         replace s1:=keeps b9 s1
         refine wpAnyH_ready (rs:=[1]) (by kernel_rfl) (by simp) ?_
         refine AllReadyH.cons (o:=_) (by rfl) (fun K hK=>?_) AllReadyH.nil
         go_simp
         refine hK.out _ _ trivial (fun hHeld15=>?_)
         clear hK K
         try simp only [Act.put,Take.nm]
         refine wpAnyH_ready (rs:=[16]) (by kernel_rfl) (by simp) ?_
         refine AllReadyH.cons (o:=_) (by rfl) (fun K hK=>?_) AllReadyH.nil
         refine step_append_row (by rfl) (.tmp 72) (.tmp 86) (by rfl) E3 (W0.heap.size+1) (.slice An i cn) i ((quadsN (b.drop (j+2)) i).map fun n:Nat=>Value.int .u32 n) (by rfl) ?_ _ 1 [.int .u32 (val ((b.drop t).take 4):Nat)] (by rfl) ?_ (one_u32 _) ?_ ?_ ?_ (i+1) (by rfl) ?_
         ·exact own_keep IS.out.own b9
         ·exact Row.one _ _ _
         ·unfold maxLen;omega
         ·omega
         ·have:=IS.out.lt;simp;omega
         intro A4 c4 w8 hown4 hg4 hat4 hb4
         have IS8:=hid (IS.out.push hb4 hown4)
         have B8:=hid (IS.out.blk8 hb4)
         clear hown4 hg4 hat4 hb4 s0 s1
         obtain ⟨s0,s1⟩:=cell0 B8.out
         obtain ⟨f0,f1⟩:=free0 B8.out
         refine hK.out _ _ trivial (fun hHeld17=>?_)
         clear hK K
         try simp only [Act.put,Take.nm]
         refine Take.tk 17 88 hHeld17 ?_
         refine wpAnyH_ready (rs:=[18]) (by kernel_rfl) (by simp) ?_
         refine AllReadyH.cons (o:=_) (by rfl) (fun K hK=>?_) AllReadyH.nil
         go_simp
         refine hK.out _ _ trivial (fun hHeld18=>?_)
         clear hK K
         try simp only [Act.put,Take.nm]
         refine wpAnyH_done (by kernel_rfl) ?_ _
         go_wp2
         go_roundw
         case rel=>exact ⟨i+1,A4,c4,by omega,by go_num,hid (by rw [HQ.out];exact IS8.out)⟩
         case measure=>simp [intOf];omega
      ·have hik2:k=i:=by omega
       subst hik2
       have z6:decide ((k:Int)<(k:Int))=false:=decide_eq_false (by omega)
       have HN:=hid (fresh_apart ST.out.1 ST.out.2.size (own_new IS.out.own (by omega)))
       have HX:=hid (U32s.of_own (l:=quadsN (b.drop (j+2)) k) (by rw [quadsN_len];exact IS.out.own) (quads_lt (HU.out.2.drop _) _))
       obtain ⟨q,o1,o2,o3,o4⟩:=ST.out.1.keep IS.out.low
       have O2:=hid (And.intro o2 (And.intro o3 o4))
       clear o2 o3 o4
       go_wp2_with (at_builtin;(refine wpList_append_row rfl (.tmp 89) (.tmp 91) rfl E w.heap.size _ p.length (segCells p q) rfl (o1.alloc _) _ 1 [.int .i64 a,.slice An k cn] rfl (row_seg_at _ _ _ _ rfl) (ones_two _ _ _ _) (by unfold maxLen;omega) (by omega) (by have:=HB.out.size;simp;omega) (p.length+1) rfl ?_;intro A2 c2 w2 hown2 hg2 hat2 hb2;have S6:=hid (segs_push (l:=quadsN (b.drop (j+2)) k) O2.out.1 O2.out.2.2 O2.out.2.1 HX.out HN.out rfl hown2 hg2 hat2);have HB6:=hid ((HB.out.alloc HB.out.size _).trans hb2);clear o1 hown2 hg2 hat2 hb2 ca ck s0 s1 f0 f1;obtain ⟨ca,ck⟩:=CK.out _ HB6.out))
       go_roundw
       case rel =>
        refine ⟨j+2+4*k,p ++ [((a:Int),quadsN (b.drop (j+2)) k)],A2,c2,by rw [List.length_append];rfl,by go_num,hid ⟨k4,by rw [List.length_append];simp;omega,?_⟩,hid ⟨by rw [List.length_append];exact S6.out,HB6.out⟩⟩
        rw [HI.out.2.2,HD.out,pathIs_step,if_pos ⟨by omega,k0,by rw [HRL.out];omega⟩,List.drop_drop]
        cases pathIs (b.drop (j+2+4*k)) <;> simp
       case measure=>simp [intOf];omega
    ·have y4:(j:Int)+2+4*(k:Int) > (b.length:Int):=by omega
     go_wp2
     go_ret2
     refine ⟨ST.out.2,?_⟩
     rw [HI.out.2.2,HD.out,pathIs_step,if_neg (by first | omega | (rw [HRL.out];omega))]
     rfl
   ·have z2:(j:Int)+2 > (b.length:Int):=by omega
    go_wp2
    go_ret2
    refine ⟨ST.out.2,?_⟩
    obtain ⟨x,hx⟩:=drop_one (b:=b) (j:=j) (by exact hlt) (by omega)
    rw [HI.out.2.2,hx,pathIs_one]
    rfl
  ·have hjL:j=b.length:=by omega
   have z1:decide ((j:Int)<(j:Int))=false:=by simp
   go_wp2
   go_ret2
   refine ⟨ST.out.2,?_⟩
   rw [HI.out.2.2,List.drop_of_length_le (by omega),pathIs_nil]
   show ∃ v,Ending.returned (.tuple #[.slice A p.length c,.bool true])=.returned (.tuple #[v,.bool true])∧OwnSegsF 108 w.heap.size w.heap.size wr v (p ++ [])
   rw [List.append_nil]
   exact ⟨_,rfl,ST.out.1⟩
end Att
end Go.Proofs.YtjfmompgkkdliaaGreatDoor
