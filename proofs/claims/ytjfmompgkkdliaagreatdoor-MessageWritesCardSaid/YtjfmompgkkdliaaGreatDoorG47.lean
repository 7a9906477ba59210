/- Part of the proof. -/
import Derived.Test.YtjfmompgkkdliaaGreatDoorG27
import Derived.Test.YtjfmompgkkdliaaGreatDoorG46
import Derived.Test.YtjfmompgkkdliaaGreatDoorG41
import Derived.Test.YtjfmompgkkdliaaGreatDoorG06
import Derived.Test.YtjfmompgkkdliaaGreatDoorG42
open Go.Lib (hid)
set_option maxRecDepth 100000
set_option maxHeartbeats 40000000
namespace Go.Proofs.YtjfmompgkkdliaaGreatDoor
namespace Msg
open Go.RowKit Mem Segm Oct Att Seg PR Opn Upd Ntc Frm
open Go.Lib (hid)
structure LimM (m:Ms):Prop where
 g:m.up.gone.length≤100000
 h:m.up.here.length≤100000
 p:m.up.at_.path.length≤100000
 n:∀ s∈m.up.at_.path,s.2.length≤1000000
 c:m.up.at_.comms.length≤1000000
 d:m.no.data.length≤1000000
theorem BoxM.setU1 {W:World} {B:Nat} {k:Int} {O U N:List Value} (h:BoxM W B k O U N) (j:Nat) (hj:j<11) {d:Value} (hd:d.oneCell'=true) (h8:No8 d):BoxM (W.setCell ⟨B,5+j,none⟩ d) B k O (U.set j d) N∧Turned B W (W.setCell ⟨B,5+j,none⟩ d):=by
 have hm:∀ v∈U.set j d,v∈U∨v=d:=fun v hv=>(List.mem_or_eq_of_mem_set hv)
 have hp:Parts O (U.set j d) N:=⟨h.parts.lo,by rw [List.length_set];exact h.parts.lu,h.parts.ln,h.parts.oo,fun v hv=>(hm v hv).elim (h.parts.ou v) (fun e=>e ▸ hd),h.parts.on,fun v hv=>hv.elim (fun q=>h.parts.n8 v (.inl q)) (fun q=>q.elim (fun q=>(hm v q).elim (fun q=>h.parts.n8 v (.inr (.inl q))) (fun e=>e ▸ h8)) (fun q=>h.parts.n8 v (.inr (.inr q))))⟩
 have hc:∀ i,i≠5+j→(W.setCell ⟨B,5+j,none⟩ d).cell? ⟨B,i,none⟩=W.cell? ⟨B,i,none⟩:=fun i hi=>World.cell?_setCell_other _ _ _ _ (fun e=>hi (by injection e with _ e;exact e.symm))
 have hl:=h.parts.lo
 have hu:=h.parts.lu
 obtain ⟨z,hz⟩:∃ z,U[j]?=some z:=⟨_,List.getElem?_eq_getElem (by omega)⟩
 have h18:W.cell? ⟨B,5+j,none⟩=some z:=h.rU j z hz
 refine ⟨⟨by have:=h.lt;simpa using this,hp,(hc 0 (by omega)).trans h.c0,fun i v hv=>(hc _ ?_).trans (h.rO i v hv),fun i v hv=>?_,fun i v hv=>(hc _ (by omega)).trans (h.rN i v hv),fun i=>?_,fun i hi=>(hc i (by omega)).trans (h.top i hi)⟩,turned_cells B [d] (5+j) W⟩
 ·have:=(List.getElem?_eq_some_iff.1 hv).1;omega
 ·rw [List.getElem?_set] at hv
  split at hv
  ·rename_i hij
   subst hij
   split at hv
   ·injection hv with hv
    rw [← hv]
    exact World.cell?_setCell_same _ _ _ h18
   ·cases hv
  ·exact (hc _ (by omega)).trans (h.rU i v hv)
 ·have:=World.frozen?_setCells B [d] (5+j) W ⟨B,i,none⟩
  exact this.trans (h.free i)
theorem segsF_off {n:Nat} {W W':World} {t:TypeId} {v:Value} {p:List Piece} (h:OwnSegsF t n n W v p) (hk:∀ k,n≤k→W'.heap[k]?=W.heap[k]?) (hs:W.heap.size≤W'.heap.size):OwnSegsF t n n W' v p:=by
 obtain ⟨q,h1,h2,h3,h4⟩:=h
 exact ⟨q,own_off h1 hk,⟨h2.1,fun k s x e1 e2=>u32_at (h2.2 k s x e1 e2) (fun b off m c e hm=>hk b (h4 x (List.mem_of_getElem? e2) b off m c e hm)) hs⟩,h3,h4⟩
structure OlSt (w:World) (k:Int) (O U N:List Value) (W:World):Prop where
 b1:BoxM W w.heap.size k O U N
 b2:BoxM W (w.heap.size+1) 0 (ocells zeroO) zU zN
 low:Below w.heap.size w W
theorem OlSt.keep {w W W':World} {k:Int} {O U N:List Value} (h:OlSt w k O U N W) (hb:Below W.heap.size W W'):OlSt w k O U N W':=⟨h.b1.keep hb,h.b2.keep hb,h.low.trans (hb.mono h.low.size)⟩
theorem OlSt.turn {w W W':World} {k k2:Int} {O U N O2 U2 N2:List Value} (h:OlSt w k O U N W) (hb:BoxM W' w.heap.size k2 O2 U2 N2∧Turned w.heap.size W W'):OlSt w k2 O2 U2 N2 W':=⟨hb.1,h.b2.turned hb.2 (Nat.succ_ne_self _),hb.2.low (Nat.le_refl _) h.low⟩
theorem ponly13 (v:Value) (m:Ms) (w:World) (h:Msgs w v m) (hlim:LimM (onlyM m)):Calls Tryz.prog 12 #[v] w (OnlyL (onlyM m) w):=by
 obtain ⟨U0,N0,rfl,hp0,ho0,hu0,hn0⟩:=h
 have hpq:=only_parts (m:=m) hp0
 have hmq:=only_msgs hp0 ho0 hu0 hn0
 have CO:=hid (fun W=>own13 m U0 N0 W hp0)
 unfold onlyV at hmq CO
 obtain ⟨b1,b2,b3⟩:=on_start (k:=m.kind) w hp0
 unfold z19 at b1 b2 b3
 obtain ⟨w1,hw1⟩:∃ w1,(w.alloc (.cells (mcells m.kind (ocells m.op) U0 N0).toArray 36)).alloc (.cells #[.int .i64 0,.int .u32 0,.int .i64 0,.int .u32 0,.bool false,.slice none 0 0,.int .i64 0,.int .i64 0,.slice none 0 0,.int .u32 0,.int .u32 0,.int .u32 0,.int .u32 0,.int .u32 0,.slice none 0 0,.slice none 0 0,.int .i64 0,.int .i64 0,.slice none 0 0] 36)=w1:=⟨_,rfl⟩
 rw [hw1] at b1 b2 b3
 have ST:=hid (show OlSt w m.kind (ocells m.op) U0 N0 w1 from ⟨b1,b2,b3⟩)
 have SZ:=hid (show w.heap.size+2≤w1.heap.size from by rw [← hw1];simp)
 clear b1 b2 b3 hp0 ho0 hu0 hn0
 generalize (if m.kind=2 then U0 else zU)=Uq at hpq hmq CO
 generalize (if m.kind=3 then N0 else zN)=Nq at hpq hmq CO
 generalize onlyM m=q at hpq hmq CO hlim ⊢
 obtain ⟨k,o,⟨gone,⟨has,origin,path,hop,med,pref,aas,aid,comms⟩,here⟩,⟨cd,sb,dd⟩⟩:=q
 dsimp only at hpq hmq CO
 obtain ⟨Ux,Nx,e1,px,hok,hu,hn⟩:=hmq
 have e1:=agg_inj e1
 dsimp only at e1 px hok hu hn
 obtain ⟨rfl,rfl⟩:Ux=Uq∧Nx=Nq:=by
  unfold mcells at e1
  injection e1 with _ e1
  obtain ⟨e3,e4⟩:=List.append_inj (List.append_cancel_left e1) (by rw [px.lu,hpq.lu])
  exact ⟨e3.symm,e4.symm⟩
 obtain ⟨vg,vp,vc,vh,e2,hg,ha,hh⟩:=hu
 obtain ⟨hat,vp',vc',e3,hp,hc⟩:=ha
 have q0:=agg_inj (A:=[_,_,_,_,_,_,_,_,_]) (B:=[_,_,_,_,_,_,_,_,_]) e3
 simp only [List.cons.injEq,and_true,true_and] at q0
 obtain ⟨rfl,rfl⟩:=q0
 obtain rfl:=agg_inj (B:=[_,_,_,_,_,_,_,_,_,_,_]) e2
 obtain ⟨wc,ws,vd,e4,hd⟩:=hn
 obtain rfl:=agg_inj (B:=[_,_,_]) e4
 dsimp only at hg hh hp hc hd wc ws hat
 obtain ⟨Ag,cg,rfl,-,-⟩:=hg.form
 obtain ⟨Ah,ch,rfl,-,-⟩:=hh.form
 obtain ⟨Ap,cp,rfl,-,-⟩:=hp.form
 obtain ⟨Ac,nc,rfl,-,-,-,-⟩:=hc.open_
 obtain ⟨Ad,cdd,rfl,-,-⟩:=hd.form
 have CG:=hid (fun W (h:Below w.heap.size w W)=>pclone_any _ gone W (hg.keep h) hlim.g)
 have CH:=hid (fun W (h:Below w.heap.size w W)=>pclone_any _ here W (hh.keep h) hlim.h)
 have CP:=hid (fun W (h:Below w.heap.size w W)=>segments_any _ path W (hp.keep h) hlim.p hlim.n)
 have CC:=hid (fun W (h:Below w.heap.size w W)=>Srt.clone_any _ comms W (hc.keep h) hlim.c)
 have CD:=hid (fun W (h:Below w.heap.size w W)=>clone_any _ dd W (hd.keep h) hlim.d)
 have PX:=hid px
 have HK:=hid (And.intro hat (And.intro hok (And.intro wc ws)))
 have HS:=hid (And.intro hg.2 (And.intro hh.2 (And.intro hc.2 hd.2)))
 clear hpq e1 e2 e3 e4 hg hh hp hc hd hat hok wc ws px hlim
 unfold GivesP at CG CH
 unfold GivesSegsF at CP
 unfold Gives32 at CC
 unfold Gives8 at CD
 have T1:=hid True.intro
 go_enter Tryz.func12,Tryz.ntmps12
 go_upto_region 2 with (first
  | (have tok:=T1.out;refine load_m ST.out.b1 _ rfl rfl (by kernel_rfl) ?_;have T2:=hid tok;clear T1 tok)
  | (go_at_call 34;refine (CO.out _).mono ?_;rintro e x ⟨rfl,hb⟩;replace ST:=hid (ST.out.keep hb);replace SZ:=hid (Nat.le_trans SZ.out hb.size);clear hb)
  | (have tok:=T2.out;refine store_m ST.out.b1 PX.out _ _ rfl rfl rfl (by kernel_rfl) ?_;intro x2 hb ht;have ST2:=hid (ST.out.turn ⟨hb,ht⟩);replace SZ:=hid (show w.heap.size+2≤x2.heap.size by rw [ht.size];exact SZ.out);clear T2 tok hb ht))
 clear ST CO PX
 have d5:x2.cell? ⟨w.heap.size,5,none⟩=some _:=ST2.out.b1.rU 0 _ rfl
 go_upto_region 3 with (go_at_call 35;refine (CG.out _ ST2.out.low).mono ?_;rintro e y2 ⟨AG,cG,rfl,hown,hb⟩;have OG:=hid (own_base hown SZ.out);have SY2:=hid (ST2.out.keep hb);replace SZ:=hid (Nat.le_trans SZ.out hb.size);clear hown hb d5 CG ST2;have d5:y2.cell? ⟨w.heap.size,5,none⟩=some _:=SY2.out.b1.rU 0 _ rfl;have f5:=SY2.out.b1.free 5)
 have hT:BoxM (y2.setCell ⟨w.heap.size,5,none⟩ (.slice AG gone.length cG)) w.heap.size k (ocells o) [.slice AG gone.length cG,.int .i64 has,.int .i64 origin,.slice Ap path.length cp,.int .u32 hop,.int .u32 med,.int .u32 pref,.int .u32 aas,.int .u32 aid,.slice Ac comms.length nc,.slice Ah here.length ch] [.int .i64 cd,.int .i64 sb,.slice Ad dd.length cdd]∧Turned w.heap.size y2 (y2.setCell ⟨w.heap.size,5,none⟩ (.slice AG gone.length cG)):=SY2.out.b1.setU1 0 (by decide) (d:=.slice AG gone.length cG) rfl (no8_s _ _ _)
 have ST3:=hid (SY2.out.turn hT)
 have hk:∀ k,w.heap.size+2≤k→(y2.setCell ⟨w.heap.size,5,none⟩ (.slice AG gone.length cG)).heap[k]?=y2.heap[k]?:=fun k hk=>hT.2.block k (by omega)
 replace OG:=hid (own_off OG.out hk)
 replace SZ:=hid (show w.heap.size+2≤(y2.setCell ⟨w.heap.size,5,none⟩ (.slice AG gone.length cG)).heap.size by rw [hT.2.size];exact SZ.out)
 clear hT hk d5 f5 SY2
 generalize y2.setCell ⟨w.heap.size,5,none⟩ (.slice AG gone.length cG)=x3 at ST3 SZ OG ⊢
 have d15:x3.cell? ⟨w.heap.size,15,none⟩=some _:=ST3.out.b1.rU 10 _ rfl
 go_upto_region 4 with (go_at_call 35;refine (CH.out _ ST3.out.low).mono ?_;rintro e y3 ⟨AH,cH,rfl,hown,hb⟩;have OH:=hid (own_base hown SZ.out);replace OG:=hid (own_keep OG.out hb);have SY3:=hid (ST3.out.keep hb);replace SZ:=hid (Nat.le_trans SZ.out hb.size);clear hown hb d15 CH ST3;have d15:y3.cell? ⟨w.heap.size,15,none⟩=some _:=SY3.out.b1.rU 10 _ rfl;have f15:=SY3.out.b1.free 15)
 have hT:BoxM (y3.setCell ⟨w.heap.size,15,none⟩ (.slice AH here.length cH)) w.heap.size k (ocells o) [.slice AG gone.length cG,.int .i64 has,.int .i64 origin,.slice Ap path.length cp,.int .u32 hop,.int .u32 med,.int .u32 pref,.int .u32 aas,.int .u32 aid,.slice Ac comms.length nc,.slice AH here.length cH] [.int .i64 cd,.int .i64 sb,.slice Ad dd.length cdd]∧Turned w.heap.size y3 (y3.setCell ⟨w.heap.size,15,none⟩ (.slice AH here.length cH)):=SY3.out.b1.setU1 10 (by decide) (d:=.slice AH here.length cH) rfl (no8_s _ _ _)
 have ST4:=hid (SY3.out.turn hT)
 have hk:∀ k,w.heap.size+2≤k→(y3.setCell ⟨w.heap.size,15,none⟩ (.slice AH here.length cH)).heap[k]?=y3.heap[k]?:=fun k hk=>hT.2.block k (by omega)
 replace OG:=hid (own_off OG.out hk)
 replace OH:=hid (own_off OH.out hk)
 replace SZ:=hid (show w.heap.size+2≤(y3.setCell ⟨w.heap.size,15,none⟩ (.slice AH here.length cH)).heap.size by rw [hT.2.size];exact SZ.out)
 clear hT hk d15 f15 SY3
 generalize y3.setCell ⟨w.heap.size,15,none⟩ (.slice AH here.length cH)=x4 at ST4 SZ OG OH ⊢
 have d8:x4.cell? ⟨w.heap.size,8,none⟩=some _:=ST4.out.b1.rU 3 _ rfl
 go_upto_region 5 with (go_at_call 36;refine (CP.out _ ST4.out.low).mono ?_;rintro e y4 ⟨v2,rfl,hown,hb⟩;obtain ⟨AP,cP,rfl⟩:=hown.form;have OP:=hid (hown.lower SZ.out SZ.out);replace OG:=hid (own_keep OG.out hb);replace OH:=hid (own_keep OH.out hb);have SY4:=hid (ST4.out.keep hb);replace SZ:=hid (Nat.le_trans SZ.out hb.size);clear hown hb d8 CP ST4;have d8:y4.cell? ⟨w.heap.size,8,none⟩=some _:=SY4.out.b1.rU 3 _ rfl;have f8:=SY4.out.b1.free 8)
 have hT:BoxM (y4.setCell ⟨w.heap.size,8,none⟩ (.slice AP path.length cP)) w.heap.size k (ocells o) [.slice AG gone.length cG,.int .i64 has,.int .i64 origin,.slice AP path.length cP,.int .u32 hop,.int .u32 med,.int .u32 pref,.int .u32 aas,.int .u32 aid,.slice Ac comms.length nc,.slice AH here.length cH] [.int .i64 cd,.int .i64 sb,.slice Ad dd.length cdd]∧Turned w.heap.size y4 (y4.setCell ⟨w.heap.size,8,none⟩ (.slice AP path.length cP)):=SY4.out.b1.setU1 3 (by decide) (d:=.slice AP path.length cP) rfl (no8_s _ _ _)
 have ST5:=hid (SY4.out.turn hT)
 have hk:∀ k,w.heap.size+2≤k→(y4.setCell ⟨w.heap.size,8,none⟩ (.slice AP path.length cP)).heap[k]?=y4.heap[k]?:=fun k hk=>hT.2.block k (by omega)
 replace OG:=hid (own_off OG.out hk)
 replace OH:=hid (own_off OH.out hk)
 replace OP:=hid (segsF_off OP.out hk (Nat.le_of_eq hT.2.size.symm))
 replace SZ:=hid (show w.heap.size+2≤(y4.setCell ⟨w.heap.size,8,none⟩ (.slice AP path.length cP)).heap.size by rw [hT.2.size];exact SZ.out)
 clear hT hk d8 f8 SY4
 generalize y4.setCell ⟨w.heap.size,8,none⟩ (.slice AP path.length cP)=x5 at ST5 SZ OG OH OP ⊢
 have d14:x5.cell? ⟨w.heap.size,14,none⟩=some _:=ST5.out.b1.rU 9 _ rfl
 go_upto_region 6 with (go_at_call 37;refine (CC.out _ ST5.out.low).mono ?_;rintro e y5 ⟨v2,rfl,hown,hb⟩;obtain ⟨AC,cC,rfl⟩:=own_form hown;have OC:=hid (own_base hown SZ.out);replace OG:=hid (own_keep OG.out hb);replace OH:=hid (own_keep OH.out hb);replace OP:=hid (OP.out.keep hb);have SY5:=hid (ST5.out.keep hb);replace SZ:=hid (Nat.le_trans SZ.out hb.size);clear hown hb d14 CC ST5;have d14:y5.cell? ⟨w.heap.size,14,none⟩=some _:=SY5.out.b1.rU 9 _ rfl;have f14:=SY5.out.b1.free 14)
 have hT:BoxM (y5.setCell ⟨w.heap.size,14,none⟩ (.slice AC comms.length cC)) w.heap.size k (ocells o) [.slice AG gone.length cG,.int .i64 has,.int .i64 origin,.slice AP path.length cP,.int .u32 hop,.int .u32 med,.int .u32 pref,.int .u32 aas,.int .u32 aid,.slice AC comms.length cC,.slice AH here.length cH] [.int .i64 cd,.int .i64 sb,.slice Ad dd.length cdd]∧Turned w.heap.size y5 (y5.setCell ⟨w.heap.size,14,none⟩ (.slice AC comms.length cC)):=SY5.out.b1.setU1 9 (by decide) (d:=.slice AC comms.length cC) rfl (no8_s _ _ _)
 have ST6:=hid (SY5.out.turn hT)
 have hk:∀ k,w.heap.size+2≤k→(y5.setCell ⟨w.heap.size,14,none⟩ (.slice AC comms.length cC)).heap[k]?=y5.heap[k]?:=fun k hk=>hT.2.block k (by omega)
 replace OG:=hid (own_off OG.out hk)
 replace OH:=hid (own_off OH.out hk)
 replace OP:=hid (segsF_off OP.out hk (Nat.le_of_eq hT.2.size.symm))
 replace OC:=hid (own_off OC.out hk)
 replace SZ:=hid (show w.heap.size+2≤(y5.setCell ⟨w.heap.size,14,none⟩ (.slice AC comms.length cC)).heap.size by rw [hT.2.size];exact SZ.out)
 clear hT hk d14 f14 SY5
 generalize y5.setCell ⟨w.heap.size,14,none⟩ (.slice AC comms.length cC)=x6 at ST6 SZ OG OH OP OC ⊢
 have d18:x6.cell? ⟨w.heap.size,18,none⟩=some _:=ST6.out.b1.rN 2 _ rfl
 go_upto_region 7 with (go_at_call 38;refine (CD.out _ ST6.out.low).mono ?_;rintro e y6 ⟨AD,cD,rfl,hown,hb⟩;have OD:=hid (own_base hown SZ.out);replace OG:=hid (own_keep OG.out hb);replace OH:=hid (own_keep OH.out hb);replace OP:=hid (OP.out.keep hb);replace OC:=hid (own_keep OC.out hb);have SY6:=hid (ST6.out.keep hb);replace SZ:=hid (Nat.le_trans SZ.out hb.size);clear hown hb d18 CD ST6;have d18:y6.cell? ⟨w.heap.size,18,none⟩=some _:=SY6.out.b1.rN 2 _ rfl;have f18:=SY6.out.b1.free 18)
 have hT:BoxM (y6.setCell ⟨w.heap.size,18,none⟩ (.slice AD dd.length cD)) w.heap.size k (ocells o) [.slice AG gone.length cG,.int .i64 has,.int .i64 origin,.slice AP path.length cP,.int .u32 hop,.int .u32 med,.int .u32 pref,.int .u32 aas,.int .u32 aid,.slice AC comms.length cC,.slice AH here.length cH] [.int .i64 cd,.int .i64 sb,.slice AD dd.length cD]∧Turned w.heap.size y6 (y6.setCell ⟨w.heap.size,18,none⟩ (.slice AD dd.length cD)):=SY6.out.b1.setD (d:=.slice AD dd.length cD) rfl (no8_s _ _ _)
 have ST7:=hid (SY6.out.turn hT)
 have hk:∀ k,w.heap.size+2≤k→(y6.setCell ⟨w.heap.size,18,none⟩ (.slice AD dd.length cD)).heap[k]?=y6.heap[k]?:=fun k hk=>hT.2.block k (by omega)
 replace OG:=hid (own_off OG.out hk)
 replace OH:=hid (own_off OH.out hk)
 replace OP:=hid (segsF_off OP.out hk (Nat.le_of_eq hT.2.size.symm))
 replace OC:=hid (own_off OC.out hk)
 replace OD:=hid (own_off OD.out hk)
 replace SZ:=hid (show w.heap.size+2≤(y6.setCell ⟨w.heap.size,18,none⟩ (.slice AD dd.length cD)).heap.size by rw [hT.2.size];exact SZ.out)
 clear hT hk d18 f18 SY6
 generalize y6.setCell ⟨w.heap.size,18,none⟩ (.slice AD dd.length cD)=x7 at ST7 SZ OG OH OP OC OD ⊢
 have T1:=hid True.intro
 go_wp2_with (first
  | (have tok:=T1.out;refine load_m ST7.out.b1 _ rfl rfl (by kernel_rfl) ?_;have T2:=hid tok;clear T1 tok)
  | (have tok:=T2.out;refine store_m ST7.out.b2 ST7.out.b1.parts _ _ rfl rfl rfl (by kernel_rfl) ?_;intro w9 hb ht;have BR:=hid hb;have HR:=hid ht;clear T2 tok hb ht))
 refine bodyPost_ret (res_msg rfl rfl BR.out) rfl ?_
 have hk:∀ k,w.heap.size+2≤k→w9.heap[k]?=x7.heap[k]?:=fun k hk=>HR.out.block k (by omega)
 refine ⟨_,_,rfl,⟨_,_,rfl,ST7.out.b1.parts,HK.out.2.1,⟨_,_,_,_,rfl,⟨Row.of_own (own_off OG.out hk),HS.out.1⟩,⟨HK.out.1,_,_,rfl,(segsF_off OP.out hk (Nat.le_of_eq HR.out.size.symm)).segs,U32s.of_own (own_off OC.out hk) HS.out.2.2.1⟩,⟨Row.of_own (own_off OH.out hk),HS.out.2.1⟩⟩,HK.out.2.2.1,HK.out.2.2.2,_,rfl,U8s.of_own (own_off OD.out hk) HS.out.2.2.2⟩,HR.out.low (Nat.le_succ _) ST7.out.low⟩
end Msg
namespace Msg
open Go.RowKit Mem Segm Oct Att Seg PR Opn Upd Ntc Frm
structure LimW (m:Ms):Prop where
 at8:Cut8 m.up.at_
 g:m.up.gone.length≤30
 h:m.up.here.length≤30
 p:m.up.at_.path.length≤12
 d:m.no.data.length≤100
theorem limW_of {m:Ms} (h:fewM m=m):LimW m:=by
 have hu:fewU m.up=m.up:=by have h:=congrArg Ms.up h;exact h
 have hn:fewN m.no=m.no:=by have h:=congrArg Ms.no h;exact h
 have ha:fewA m.up.at_=m.up.at_:=by have h:=congrArg Up.at_ hu;exact h
 refine ⟨ha ▸ cut8_few _,?_,?_,?_,?_⟩
 ·rw [← hu];unfold fewU;rw [List.length_take];omega
 ·rw [← hu];unfold fewU;rw [List.length_take];omega
 ·rw [← ha];unfold fewA;show ((m.up.at_.path.take 12).map fewOne).length≤12;rw [List.length_map];exact List.length_take_le 12 _
 ·rw [← hn];unfold fewN;rw [List.length_take];omega
theorem lim_only {m:Ms} (h:LimW m):LimM (onlyM m):=by
 obtain ⟨k,o,u,n⟩:=m
 have h1:(onlyM ⟨k,o,u,n⟩).up=u∨(onlyM ⟨k,o,u,n⟩).up=zeroU:=by
  show (if k=2 then u else zeroU)=u∨_
  split
  ·exact .inl rfl
  ·exact .inr (if_neg (by assumption))
 have h2:(onlyM ⟨k,o,u,n⟩).no=n∨(onlyM ⟨k,o,u,n⟩).no=noN:=by
  show (if k=3 then n else noN)=n∨_
  split
  ·exact .inl rfl
  ·exact .inr (if_neg (by assumption))
 have hd:=h.d
 have hg:=h.g
 have hh:=h.h
 have hp:=h.p
 have hc:=h.at8.cm
 have hf:=h.at8.fit
 dsimp only at hd hg hh hp hc hf
 refine ⟨?_,?_,?_,?_,?_,?_⟩
 iterate 5
  ·rcases h1 with e | e <;> rw [e]
   ·first
     | omega
     | exact fun s hs=>Nat.le_trans (hf s hs) (by decide)
   ·first
     | exact Nat.zero_le _
     | exact fun s hs=>by cases hs
 ·rcases h2 with e | e <;> rw [e]
  ·omega
  ·exact Nat.zero_le _
end Msg
end Go.Proofs.YtjfmompgkkdliaaGreatDoor
