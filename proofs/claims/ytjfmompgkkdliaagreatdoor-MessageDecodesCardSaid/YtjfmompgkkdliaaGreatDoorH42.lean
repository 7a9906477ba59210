/- Part of the proof. -/
import Derived.Test.YtjfmompgkkdliaaGreatDoorH37
import Derived.Test.YtjfmompgkkdliaaGreatDoorH40
import Derived.Test.YtjfmompgkkdliaaGreatDoorH04
import Derived.Test.YtjfmompgkkdliaaGreatDoorH39
import Derived.Test.YtjfmompgkkdliaaGreatDoorH41
import Derived.Test.YtjfmompgkkdliaaGreatDoorH03
import Derived.Test.YtjfmompgkkdliaaGreatDoorH24
import Derived.Test.YtjfmompgkkdliaaGreatDoorH38
import Derived.Test.YtjfmompgkkdliaaGreatDoorH12
open Go.Lib (hid)
set_option maxRecDepth 100000
set_option maxHeartbeats 40000000
namespace Go.Proofs.YtjfmompgkkdliaaGreatDoor
namespace Msg
open Go.RowKit Mem Segm Oct Att Seg PR Opn Upd Ntc Frm
open Go.Lib (hid)
def mix (W W':World):World:={ W with heap:=Array.ofFn (n:=W'.heap.size) fun i=>if h:i.val<W.heap.size then W.heap[i.val] else W'.heap[i.val] }
theorem mix_low {W W':World} (hs:W.heap.size≤W'.heap.size):Below W.heap.size W (mix W W'):=by
 refine ⟨rfl,rfl,rfl,by simp [mix];exact hs,fun k hk=>?_⟩
 have hk2:k<W'.heap.size:=Nat.lt_of_lt_of_le hk hs
 simp [mix,hk,hk2]
theorem mix_off {W W':World} {n:Nat} (hs:W.heap.size≤W'.heap.size) (h:∀ k,k<W.heap.size→n≤k→W'.heap[k]?=W.heap[k]?):(∀ k,n≤k→W'.heap[k]?=(mix W W').heap[k]?)∧(mix W W').heap.size≤W'.heap.size:=by
 refine ⟨fun k hn=>?_,by simp [mix]⟩
 by_cases hk:k<W.heap.size
 ·rw [h k hk hn]
  exact ((mix_low hs).block k hk).symm
 ·by_cases hk2:k<W'.heap.size
  ·simp [mix,hk,hk2]
  ·have e1:W'.heap[k]?=none:=Array.getElem?_eq_none (Nat.le_of_not_lt hk2)
   have e2:(mix W W').heap[k]?=none:=Array.getElem?_eq_none (by simp [mix];omega)
   rw [e1,e2]
theorem updF_part {n:Nat} {W W':World} {v:Value} {u:Up} (h:UpdF n W v u) (hk:∀ k,k<W.heap.size→n≤k→W'.heap[k]?=W.heap[k]?) (hs:W.heap.size≤W'.heap.size):UpdF n W' v u :=
 let ⟨h1,h2⟩:=mix_off hs hk
 (h.keep (mix_low hs)).off h1 h2
def DecG (k:Int) (b:List Nat) (v:Value) (w:World) (e:Ending) (w':World):Prop :=
 ∃ U N x0 x1 x2,e=.returned (.tuple #[.agg (mcells (decM k b).1.kind (ocells (decM k b).1.op) U N).toArray,.agg #[x0,x1,x2]])∧Parts (ocells (decM k b).1.op) U N ∧
  (∀ S:Nat→Prop,(∀ j,w.heap.size≤j→S j)→(∀ j,0<b.length→v.ownBlock=some j→j<w.heap.size→S j)→Firm w' S (fun W=>Msgs W (.agg (mcells (decM k b).1.kind (ocells (decM k b).1.op) U N).toArray) (decM k b).1)) ∧
  Note w' (.agg #[x0,x1,x2]) (decM k b).2∧Below w.heap.size w w'
structure RdSt (w:World) (C D:Nat) (k:Int) (O U N:List Value) (y0 y1 y2:Value) (W:World):Prop where
 r1:BoxM W w.heap.size 0 (ocells zeroO) zU zN
 r2:Box3 W (w.heap.size+1) 34 (.int .i64 0) (.int .i64 0) (.slice none 0 0)
 m:BoxM W C k O U N
 n:Box3 W D 34 y0 y1 y2
 low:Below w.heap.size w W
 hC:w.heap.size+1<C∧w.heap.size+1<D∧C≠D
section
variable {w W W':World} {C D:Nat} {k k':Int} {O U N O' U' N':List Value} {y0 y1 y2 z0 z1 z2:Value}
theorem RdSt.keep (h:RdSt w C D k O U N y0 y1 y2 W) (hb:Below W.heap.size W W'):RdSt w C D k O U N y0 y1 y2 W' :=
 ⟨h.r1.keep hb,h.r2.keep hb,h.m.keep hb,h.n.keep hb,h.low.trans (hb.mono h.low.size),h.hC⟩
theorem RdSt.setM (h:RdSt w C D k O U N y0 y1 y2 W) (hb:BoxM W' C k' O' U' N') (ht:Turned C W W'):RdSt w C D k' O' U' N' y0 y1 y2 W':=by
 obtain ⟨h1,h2,h3⟩:=h.hC
 exact ⟨h.r1.turned ht (by omega),box3_turned h.r2 ht (by omega),hb,box3_turned h.n ht (fun e=>h3 e.symm),ht.low (by omega) h.low,h.hC⟩
theorem RdSt.setN (h:RdSt w C D k O U N y0 y1 y2 W) (hb:Box3 W' D 34 z0 z1 z2) (ht:Turned D W W'):RdSt w C D k O U N z0 z1 z2 W':=by
 obtain ⟨h1,h2,h3⟩:=h.hC
 exact ⟨h.r1.turned ht (by omega),box3_turned h.r2 ht (by omega),h.m.turned ht h3,hb,ht.low (by omega) h.low,h.hC⟩
end
def z3:Array Value:=#[.int .i64 0,.int .i64 0,.slice none 0 0]
theorem rd_start (w:World):BoxM ((w.alloc (.cells z19 36)).alloc (.cells z3 34)) w.heap.size 0 (ocells zeroO) zU zN∧Box3 ((w.alloc (.cells z19 36)).alloc (.cells z3 34)) (w.heap.size+1) 34 (.int .i64 0) (.int .i64 0) (.slice none 0 0) ∧
  Below w.heap.size w ((w.alloc (.cells z19 36)).alloc (.cells z3 34))∧w.heap.size+2=((w.alloc (.cells z19 36)).alloc (.cells z3 34)).heap.size:=by
 have b1:=box_msg w z19
 have hs:(w.alloc (.cells z19 36)).heap.size=w.heap.size+1:=by simp
 have b2:=box_low (w.alloc (.cells z19 36)) (.int .i64 0) (.int .i64 0) (.slice none 0 0)
 have h1:=BoxM.new w 36 0 (parts_z zeroO)
 rw [← z19_is] at h1
 have h2:=Box3.new (w.alloc (.cells z19 36)) 34 (.int .i64 0) (.int .i64 0) (.slice none 0 0)
 rw [hs] at h2
 exact ⟨h1.keep b2,h2,b1.trans (b2.mono b1.size),by simp⟩
def Met (k:Int) (b:List Nat) (v:Value) (w:World) (C D:Nat) (W:World):Prop :=
 ∃ U N y0 y1 y2,RdSt w C D (rawM k b).1.kind (ocells (rawM k b).1.op) U N y0 y1 y2 W ∧
  (∀ S:Nat→Prop,(∀ j,w.heap.size+2≤j→S j)→(∀ j,0<b.length→v.ownBlock=some j→j<w.heap.size→S j)→Firm W S (fun W=>Msgs W (.agg (mcells (rawM k b).1.kind (ocells (rawM k b).1.op) U N).toArray) (rawM k b).1)) ∧
  Note W (.agg #[y0,y1,y2]) (rawM k b).2
theorem parts_n (o:Opn.Op) (x y z:Value) (hx:x.oneCell'=true) (hy:y.oneCell'=true) (hz:z.oneCell'=true) (kx:No8 x) (ky:No8 y) (kz:No8 z):Parts (ocells o) zU [x,y,z]:=by
 have h:=parts_z o
 refine ⟨rfl,rfl,rfl,h.oo,h.ou,fun v hv=>?_,fun v hv=>hv.elim (fun k=>h.n8 v (.inl k)) (fun k=>k.elim (fun k=>h.n8 v (.inr (.inl k))) (fun k=>?_))⟩
 ·simp only [List.mem_cons,List.not_mem_nil,or_false] at hv
  rcases hv with rfl | rfl | rfl <;> assumption
 ·simp only [List.mem_cons,List.not_mem_nil,or_false] at k
  rcases k with rfl | rfl | rfl <;> assumption
theorem nat_wf {n:Nat} (h:n<256):(Lit.int .i64 (n:Nat)).wf=true:=by simp [Lit.wf,IntKind.min,IntKind.max,IntKind.signed,IntKind.bits];omega
theorem msgs_plain (W:World) (k:Int) (o:Opn.Op) (ho:o.ok):Msgs W (.agg (mcells k (ocells o) zU zN).toArray) ⟨k,o,zeroU,noN⟩:=⟨zU,zN,rfl,parts_z o,ho,upds_z W,note_z W⟩
theorem firm_on {W W1 W2:World} {B:Nat} {v:Value} {Φ:World→Prop} {b:List Nat} (h:∀ S:Nat→Prop,(∀ j,B+2≤j→S j)→(∀ j,0<b.length→v.ownBlock=some j→j<B→S j)→Firm W S Φ) (t1:Turned B W.drew W1) (t2:Turned (B+1) W1 W2) (S:Nat→Prop) (h1:∀ j,B≤j→S j) (h2:∀ j,0<b.length→v.ownBlock=some j→j<B→S j):Firm W2 S Φ:=fun W' hk hs =>
 have hz:W.heap.size=W2.heap.size:=(t2.size.trans t1.size).symm
 h (fun j=>S j∧j≠B∧j≠B+1) (fun j hj=>⟨h1 j (by omega),by omega,by omega⟩) (fun j h0 hj hl=>⟨h2 j h0 hj hl,by omega,by omega⟩) W'
  (fun j hj ⟨s1,s2,s3⟩=>(hk j (by omega) s1).trans ((t2.block j s3).trans (t1.block j s2))) (by omega)
theorem note_on {w W W1 W2:World} {C D:Nat} {k:Int} {O U N:List Value} {y0 y1 y2 v:Value} {n:No} (st:RdSt w C D k O U N y0 y1 y2 W) (h:Note W v n) (t1:Turned w.heap.size W.drew W1) (t2:Turned (w.heap.size+1) W1 W2):Note W2 v n∧Below w.heap.size w W2:=by
 obtain ⟨q1,q2,vd,e,hd⟩:=h
 have hb:Below W.heap.size W W.drew:=(Below.refl _ _).drew
 have st:=st.keep hb
 have hd1:=u8_apart (hd.keep hb) st.r1.no8 t1.block (Nat.le_of_eq t1.size.symm)
 have hd2:=u8_apart hd1 ((box3_turned st.r2 t1 (Nat.succ_ne_self _)).no8 (no8_i _) (no8_i _) (no8_s _ _ _)) t2.block (Nat.le_of_eq t2.size.symm)
 exact ⟨⟨q1,q2,vd,e,hd2⟩,t2.low (by omega) (t1.low (Nat.le_refl _) st.low)⟩
theorem rdec13 (k:Int) (v:Value) (b:List Nat) (w:World) (hv:U8s w v b) (hl:b.length≤4077)
  (hO:k=1→∀ W,U8s W v b→Calls Tryz.prog 50 #[v] W (fun e w'=>∃ vn,e=.returned (.tuple #[.agg (ocells (outO (decO b)).1).toArray,vn])∧(outO (decO b)).1.ok∧Note w' vn (outO (decO b)).2∧Below W.heap.size W w'))
  (hU:k=2→∀ W,U8s W v b→Calls Tryz.prog 51 #[v] W (DecU b W)):Calls Tryz.prog 21 #[.int .i64 k,v] w (DecG k b v w):=by
 obtain ⟨A0,c0,rfl,hc,hc2⟩:=hv.form
 have HS:=hid (rd_start w)
 have HV:=hid hv
 clear hv
 unfold z19 z3 at HS
 obtain ⟨w1,hw1⟩:∃ w1,(w.alloc (.cells #[.int .i64 0,.int .u32 0,.int .i64 0,.int .u32 0,.bool false,.slice none 0 0,.int .i64 0,.int .i64 0,.slice none 0 0,.int .u32 0,.int .u32 0,.int .u32 0,.int .u32 0,.int .u32 0,.slice none 0 0,.slice none 0 0,.int .i64 0,.int .i64 0,.slice none 0 0] 36)).alloc (.cells #[.int .i64 0,.int .i64 0,.slice none 0 0] 34)=w1:=⟨_,rfl⟩
 rw [hw1] at HS
 have HM:=hid (rd_start w1)
 unfold z19 z3 at HM
 obtain ⟨w2,hw2⟩:∃ w2,(w1.alloc (.cells #[.int .i64 0,.int .u32 0,.int .i64 0,.int .u32 0,.bool false,.slice none 0 0,.int .i64 0,.int .i64 0,.slice none 0 0,.int .u32 0,.int .u32 0,.int .u32 0,.int .u32 0,.int .u32 0,.slice none 0 0,.slice none 0 0,.int .i64 0,.int .i64 0,.slice none 0 0] 36)).alloc (.cells #[.int .i64 0,.int .i64 0,.slice none 0 0] 34)=w2:=⟨_,rfl⟩
 rw [hw2] at HM
 have P0:=hid (parts_z zeroO)
 have T1:=hid True.intro
 go_enter Tryz.func21,Tryz.ntmps21
 go_upto_region 2 with (first
  | (have tok:=T1.out;refine store_m HM.out.1 (k2:=k) P0.out _ _ rfl rfl (by rfl) (by kernel_rfl) ?_;intro w3 hb ht;have B3:=hid hb;have HT:=hid ht;have T2:=hid tok;clear T1 tok hb ht)
  | (have tok:=T2.out;refine store_b (box3_turned HM.out.2.1 HT.out (Nat.succ_ne_self _)) _ _ rfl rfl rfl (by decide) (by kernel_rfl) ?_;intro w4 hb ht;have B4:=hid hb;have HT2:=hid ht;clear T2 tok hb ht))
 have ST:=hid (show RdSt w w1.heap.size (w1.heap.size+1) k (ocells zeroO) zU zN (.int .i64 0) (.int .i64 0) (.slice none 0 0) w4 from
  ((show RdSt w w1.heap.size (w1.heap.size+1) 0 (ocells zeroO) zU zN (.int .i64 0) (.int .i64 0) (.slice none 0 0) w2 from
   ⟨HS.out.1.keep HM.out.2.2.1,HS.out.2.1.keep HM.out.2.2.1,HM.out.1,HM.out.2.1,HS.out.2.2.1.trans (HM.out.2.2.1.mono HS.out.2.2.1.size),by have:=HS.out.2.2.2;omega⟩).setM B3.out HT.out).setN B4.out HT2.out)
 clear HS HM B3 HT B4 HT2 hw1 hw2
 generalize w1.heap.size+1=D at ST ⊢
 generalize w1.heap.size=C at ST ⊢
 go_upto_block 0 with fail
 go_cut [] (fun wx=>Hid (Met k b (.slice A0 b.length c0) w C D wx))
 case first =>
  by_cases h1:k=1
  ·subst h1
   have HR:=hid (show rawM 1 b=(⟨1,(outO (decO b)).1,zeroU,noN⟩,(outO (decO b)).2) from rfl)
   have CO:=hid (hO rfl)
   generalize (outO (decO b)).1=o1 at HR CO
   generalize (outO (decO b)).2=n1 at HR CO
   have T1:=hid True.intro
   clear hO hU
   go_wp2_with (first
    | (go_at_call 50;refine (CO.out _ (HV.out.keep ST.out.low)).mono ?_;rintro e x ⟨vn,rfl,hok,hn,hb⟩;obtain ⟨q1,q2,vd,rfl,hd⟩:=hn;obtain ⟨Ad,cd,rfl,-,-⟩:=hd.form;have HQ:=hid (And.intro hok (And.intro q1 q2));have HD:=hid hd;replace ST:=hid (ST.out.keep hb);clear hok q1 q2 hd hb)
    | (have tok:=T1.out;refine store_o ST.out.m (parts_z o1) _ _ rfl rfl rfl (by kernel_rfl) ?_;intro x2 hb ht;replace HD:=hid (u8_apart HD.out ST.out.m.no8 ht.block (Nat.le_of_eq ht.size.symm));replace ST:=hid (ST.out.setM hb ht);have T2:=hid tok;clear T1 tok hb ht)
    | (have tok:=T2.out;refine store_b ST.out.n _ _ rfl rfl rfl (by simp [Value.oneCell']) (by kernel_rfl) ?_;intro x3 hb ht;replace HD:=hid (u8_apart HD.out (ST.out.n.no8 (no8_i _) (no8_i _) (no8_s _ _ _)) ht.block (Nat.le_of_eq ht.size.symm));replace ST:=hid (ST.out.setN hb ht);clear T2 tok hb ht))
   go_meet
   refine hid ?_
   unfold Met
   rw [HR.out]
   exact ⟨zU,zN,_,_,_,ST.out,fun S _ _ W' _ _=>msgs_plain W' _ _ HQ.out.1,HQ.out.2.1,HQ.out.2.2,_,rfl,HD.out⟩
  by_cases h2:k=2
  ·subst h2
   have HR:=hid (show rawM 2 b=(⟨2,zeroO,(outU (decU b)).1,noN⟩,(outU (decU b)).2) from rfl)
   have CU:=hid (hU rfl)
   unfold DecU at CU
   generalize (outU (decU b)).1=u1 at HR CU
   generalize (outU (decU b)).2=n1 at HR CU
   have T1:=hid True.intro
   clear hO hU
   go_wp2_with (first
    | (go_at_call 51;refine (CU.out _ (HV.out.keep ST.out.low)).mono ?_;rintro e x ⟨vu,vn,rfl,hu,hn,hb⟩;obtain ⟨U2,rfl⟩:=updF_agg hu;obtain ⟨q1,q2,vd,rfl,hd⟩:=hn;obtain ⟨Ad,cd,rfl,-,-⟩:=hd.form;have HQ:=hid (And.intro q1 q2);have HD:=hid hd;have HF:=hid hu;have HP:=hid (parts_u (parts_z zeroO) hu);have HC:=hid (And.intro ST.out.m.lt ST.out.n.lt);have HW:=hid ST.out.low.size;replace ST:=hid (ST.out.keep hb);clear hu q1 q2 hd hb)
    | (have tok:=T1.out;refine store_u ST.out.m HP.out _ _ rfl rfl rfl (by kernel_rfl) ?_;intro x2 hb ht;replace HD:=hid (u8_apart HD.out ST.out.m.no8 ht.block (Nat.le_of_eq ht.size.symm));replace HF:=hid (HF.out.off (fun j hj=>ht.block j (by have:=HC.out.1;omega)) (Nat.le_of_eq ht.size.symm));replace ST:=hid (ST.out.setM hb ht);have T2:=hid tok;clear T1 tok hb ht)
    | (have tok:=T2.out;refine store_b ST.out.n _ _ rfl rfl rfl (by simp [Value.oneCell']) (by kernel_rfl) ?_;intro x3 hb ht;replace HD:=hid (u8_apart HD.out (ST.out.n.no8 (no8_i _) (no8_i _) (no8_s _ _ _)) ht.block (Nat.le_of_eq ht.size.symm));replace HF:=hid (HF.out.off (fun j hj=>ht.block j (by have:=HC.out.2;omega)) (Nat.le_of_eq ht.size.symm));replace ST:=hid (ST.out.setN hb ht);clear T2 tok hb ht))
   go_meet
   refine hid ?_
   unfold Met
   rw [HR.out]
   have hC:=ST.out.hC
   have hC2:=HC.out
   exact ⟨U2,zN,_,_,_,ST.out,fun S hS _ W' hk hs=>⟨U2,zN,rfl,HP.out,zeroO_ok,(updF_part HF.out (fun j h3 h4=>hk j h3 (hS j (by omega))) hs).upds,note_z W'⟩,HQ.out.1,HQ.out.2,_,rfl,HD.out⟩
  by_cases h3:k=3
  ·subst h3
   clear hO hU h1 h2
   by_cases hl2:b.length<2
   ·have hB:ntcB b=false:=decide_eq_false (by omega)
    have HR:=hid (show rawM 3 b=(⟨3,zeroO,zeroU,noN⟩,⟨1,2,[]⟩) from by show (if ntcB b then _ else _)=_;rw [hB];rfl)
    have z1:(b.length:Int)<2:=by omega
    have T2:=hid True.intro
    clear hB
    go_wp2_with (have tok:=T2.out;refine store_b ST.out.n _ _ rfl rfl (by rfl) (by decide) (by kernel_rfl) ?_;intro x3 hb ht;replace ST:=hid (ST.out.setN hb ht);clear T2 tok hb ht)
    go_meet
    refine hid ?_
    unfold Met
    rw [HR.out]
    exact ⟨zU,zN,_,_,_,ST.out,fun S _ _ W' _ _=>msgs_plain W' _ _ zeroO_ok,show (Lit.int .i64 1).wf=true by decide,show (Lit.int .i64 _).wf=true by decide,_,rfl,U8s.nil _⟩
   ·obtain ⟨b0,off,x0,rfl,hb0,hx0,hx0b,hcell⟩:=(HV.out.keep ST.out.low).at_ (show 0<b.length by omega)
    rw [Nat.add_zero] at hcell
    have z1:(2:Int)≤(b.length:Int):=by omega
    have z2:(b.length:Int)≤4077:=by omega
    by_cases hx:x0=0
    ·subst hx
     have hB:ntcB b=false:=decide_eq_false (by rw [hx0];simp)
     have HR:=hid (show rawM 3 b=(⟨3,zeroO,zeroU,noN⟩,⟨1,2,[]⟩) from by show (if ntcB b then _ else _)=_;rw [hB];rfl)
     have T2:=hid True.intro
     clear hB hx0
     go_wp2_with (have tok:=T2.out;refine store_b ST.out.n _ _ rfl rfl (by rfl) (by decide) (by kernel_rfl) ?_;intro x3 hb ht;replace ST:=hid (ST.out.setN hb ht);clear T2 tok hb ht)
     go_meet
     refine hid ?_
     unfold Met
     rw [HR.out]
     exact ⟨zU,zN,_,_,_,ST.out,fun S _ _ W' _ _=>msgs_plain W' _ _ zeroO_ok,show (Lit.int .i64 1).wf=true by decide,show (Lit.int .i64 _).wf=true by decide,_,rfl,U8s.nil _⟩
    ·have y0:((x0:Int) == 0)=false:=by simp;omega
     have e1:decide ((b.length:Int)<2)=false:=decide_eq_false (by omega)
     have e2:decide (4077<(b.length:Int))=false:=decide_eq_false (by omega)
     go_upto_region 11 with fail
     obtain ⟨b1,off1,x1,e,hb1,hx1,hx1b,hcell1⟩:=(HV.out.keep ST.out.low).at_ (show 1<b.length by omega)
     injection e with e
     injection e with e3 e4
     subst e3 e4
     have hB:ntcB b=true:=decide_eq_true ⟨by omega,by rw [hx0];intro e;injection e with e;exact hx e,hl⟩
     have HR:=hid (show rawM 3 b=(⟨3,zeroO,zeroU,⟨(x0:Nat),(x1:Nat),b.drop 2⟩⟩,noN) from by
      show (if ntcB b then _ else _)=_
      rw [hB]
      show (Ms.mk 3 zeroO zeroU (ntcD b),noN)=_
      unfold ntcD
      rw [hx0,hx1]
      rfl)
     have v0:IntKind.i64.wrap (x0:Int)=(x0:Int):=IntWalk.i64_in _ (by omega)
     have v1:IntKind.i64.wrap (x1:Int)=(x1:Int):=IntWalk.i64_in _ (by omega)
     have z3:(1:Int)<(b.length:Int):=by omega
     have hbw:b0<w.heap.size:=by
      obtain ⟨b2,off2,x2,e,hb2,-,-,-⟩:=HV.out.at_ (show 0<b.length by omega)
      injection e with e
      injection e with e3 e4
      omega
     have hx1w:x1<256:=hx1b
     have z5:0<b.length:=by omega
     have z6:1<b.length:=by omega
     have z4:(2:Int)≤(c0:Int):=by omega
     have hd:Below w4.heap.size w4 w4.drew:=(Below.refl _ _).drew
     have SD:=hid (ST.out.keep hd)
     have hS:w4.drew.cell? ⟨b0,off,none⟩=some (.int .u8 x0)∧w4.drew.cell? ⟨b0,off+1,none⟩=some (.int .u8 x1):=⟨keepsT hd hcell,keepsT hd hcell1⟩
     obtain ⟨o2,hxv,HX⟩:∃ o2,(∀ W,(Instr.slice 32 (.slice (some ⟨b0,off,none⟩) b.length c0) (some (.int .i64 2)) none none).run Tryz.prog W=.ok (.slice (some ⟨b0,o2,none⟩) (b.length - 2) (c0 - 2)) W)∧(∀ W,U8s W (.slice (some ⟨b0,off,none⟩) b.length c0) b→U8s W (.slice (some ⟨b0,o2,none⟩) (b.length - 2) (c0 - 2)) (b.drop 2)):=by
      by_cases hq:c0=2
      ·have hq2:(c0=2)=True:=eq_true hq
       refine ⟨off,fun W=>?_,fun W _=>?_⟩
       ·go_simp
       ·rw [show b.length - 2=0 by omega,show c0 - 2=0 by omega,List.drop_of_length_le (by omega)]
        exact u8_none W _ (by decide)
      ·have hq2:(c0=2)=False:=eq_false hq
       refine ⟨off+2,fun W=>?_,fun W h=>?_⟩
       ·go_simp
       ·have h1:=U8s.mid h (i:=2) (k:=b.length - 2) (by omega) (by omega)
        rwa [List.take_of_length_le (by rw [List.length_drop];omega)] at h1
     clear hB hx0 hx1 hcell hcell1 hd ST hb0 hb1
     refine wp_region_noPanic ?_
     refine wp_region_held_drew (S:=fun w'=>w'.cell? ⟨b0,off,none⟩=some (.int .u8 x0)∧w'.cell? ⟨b0,off+1,none⟩=some (.int .u8 x1)) (by kernel_rfl) hS (fun h0=>?_)
     refine Take.tk 0 46 hS ?_
     refine Take.tk 1 47 hS ?_
     refine Take.tk 2 48 hS ?_
     try simp only [Act.put,Take.nm]
     refine Take.tk 3 49 hS ?_
     refine Take.tk 4 50 hS ?_
     refine Take.tk 5 51 hS ?_
     try simp only [Act.put,Take.nm]
     refine Take.tk 6 52 hS ?_
     refine Take.tk 7 53 hS ?_
     refine Take.tk 8 54 hS ?_
     try simp only [Act.put,Take.nm]
     refine Take.tk (v:=.slice (some ⟨b0,o2,none⟩) (b.length - 2) (c0 - 2)) 9 55 hS ?_
     refine Take.tk 10 56 hS ?_
     refine Take.tk 11 57 hS ?_
     try simp only [Act.put,Take.nm]
     refine wpAnyH_ready (rs:=[12]) (by kernel_rfl) (by simp) ?_
     refine AllReadyH.cons (o:=_) (by rfl) (fun K1 hK=>?_) AllReadyH.nil
     rw [if_pos (by rfl)]
     have PN:=hid (parts_n zeroO (.int .i64 (x0:Nat)) (.int .i64 (x1:Nat)) (.slice (some ⟨b0,o2,none⟩) (b.length - 2) (c0 - 2)) rfl rfl rfl (no8_i _) (no8_i _) (no8_s _ _ _))
     refine wp_store_n SD.out.m PN.out _ _ rfl rfl rfl ?_
     intro w5 hb ht
     have hC:=SD.out.hC
     have hk5:=ht.block b0 (by omega)
     have S5:=hid (SD.out.setM hb ht)
     refine hK.out _ _ ⟨(World.cell?_of_block hk5).trans hS.1,(World.cell?_of_block hk5).trans hS.2⟩ (fun h1=>?_)
     clear hK K1
     try simp only [Act.put,Take.nm]
     refine wpAnyH_done (by kernel_rfl) ?_ _
     refine NoPanic.normal ?_
     go_wp2_with fail
     go_meet
     refine hid ?_
     unfold Met
     rw [HR.out]
     exact ⟨zU,_,_,_,_,S5.out,fun S hS1 hS2 W' hk hs=>⟨zU,_,rfl,PN.out,zeroO_ok,upds_z W',⟨nat_wf hx0b,nat_wf hx1w,_,rfl,HX _ ((HV.out.keep S5.out.low).part (fun g hg=>(by injection hg with hg;rw [← hg];exact hk b0 (Nat.lt_of_lt_of_le hbw S5.out.low.size) (hS2 b0 z5 rfl hbw))) hs)⟩⟩,note_z _⟩
  by_cases h4:k=4
  ·subst h4
   clear hO hU h1 h2 h3
   by_cases hl2:b=[]
   ·have HR:=hid (show rawM 4 b=(⟨4,zeroO,zeroU,noN⟩,noN) from by show (if b=[] then _ else _)=_;rw [if_pos hl2])
    have z1:(b.length:Int)=0:=by rw [hl2];rfl
    clear hl2
    go_wp2_with fail
    go_meet
    refine hid ?_
    unfold Met
    rw [HR.out]
    exact ⟨zU,zN,_,_,_,ST.out,fun S _ _ W' _ _=>msgs_plain W' _ _ zeroO_ok,note_z _⟩
   ·have HR:=hid (show rawM 4 b=(⟨4,zeroO,zeroU,noN⟩,⟨1,2,[]⟩) from by show (if b=[] then _ else _)=_;rw [if_neg hl2])
    have z1:(0:Int)<(b.length:Int):=by have:=List.length_pos_iff.2 hl2;omega
    clear hl2
    have T2:=hid True.intro
    go_wp2_with (have tok:=T2.out;refine store_b ST.out.n _ _ rfl rfl (by rfl) (by decide) (by kernel_rfl) ?_;intro x3 hb ht;replace ST:=hid (ST.out.setN hb ht);clear T2 tok hb ht)
    go_meet
    refine hid ?_
    unfold Met
    rw [HR.out]
    exact ⟨zU,zN,_,_,_,ST.out,fun S _ _ W' _ _=>msgs_plain W' _ _ zeroO_ok,show (Lit.int .i64 1).wf=true by decide,show (Lit.int .i64 _).wf=true by decide,_,rfl,U8s.nil _⟩
  have HR:=hid (show rawM k b=(⟨k,zeroO,zeroU,noN⟩,⟨1,3,[]⟩) from by unfold rawM;rw [if_neg h1,if_neg h2,if_neg h3,if_neg h4])
  have y1:(k == 1)=false:=by simp [h1]
  have y2:(k == 2)=false:=by simp [h2]
  have y3:(k == 3)=false:=by simp [h3]
  have y4:(k == 4)=false:=by simp [h4]
  have T2:=hid True.intro
  clear hO hU
  go_wp2_with (have tok:=T2.out;refine store_b ST.out.n _ _ rfl rfl (by rfl) (by decide) (by kernel_rfl) ?_;intro x3 hb ht;replace ST:=hid (ST.out.setN hb ht);clear T2 tok hb ht)
  go_meet
  refine hid ?_
  unfold Met
  rw [HR.out]
  exact ⟨zU,zN,_,_,_,ST.out,fun S _ _ W' _ _=>msgs_plain W' _ _ zeroO_ok,show (Lit.int .i64 1).wf=true by decide,show (Lit.int .i64 3).wf=true by decide,_,rfl,U8s.nil _⟩
 case rest =>
 rename_i HKK
 refine HKK _ _ ?_
 clear HKK ST hO hU hl hc hc2
 obtain ⟨U,N,y0,y1,y2,hst,hfirm,hn⟩:=hcut.out
 have ST:=hid hst
 have HF:=hid hfirm
 have HN:=hid hn
 have HD:=hid (show decM k b=(if (rawM k b).2.code=0 then rawM k b else (zeroM,(rawM k b).2)) from rfl)
 clear hst hfirm hn hcut HV
 unfold DecG
 generalize decM k b=DM at HD ⊢
 generalize rawM k b=RM at ST HF HN HD
 obtain ⟨⟨k2,o2,u2,n2⟩,⟨cd,sb,dd⟩⟩:=RM
 dsimp only at ST HF HN HD
 obtain ⟨q1,q2,vd,e,hd⟩:=HN.out
 dsimp only at q1 q2 e hd
 injection e with e
 obtain ⟨rfl,rfl,rfl⟩:y0=.int .i64 cd∧y1=.int .i64 sb∧y2=vd:=by simpa using e
 obtain ⟨Ad,cdd,rfl,-,-⟩:=hd.form
 obtain ⟨c0',c1',c2'⟩:=ST.out.n.cells
 clear q1 q2 hd e
 have SD:=hid (ST.out.keep ((Below.refl _ wc).drew:Below wc.heap.size wc wc.drew))
 have hS:wc.drew.cell? ⟨D,0,none⟩=some (.int .i64 cd)∧wc.drew.cell? ⟨D,1,none⟩=some (.int .i64 sb)∧wc.drew.cell? ⟨D,2,none⟩=some (.slice Ad dd.length cdd)∧BoxM wc.drew C k2 (ocells o2) U N:=⟨keepsT ((Below.refl _ wc).drew:Below wc.heap.size wc wc.drew) c0',keepsT ((Below.refl _ wc).drew:Below wc.heap.size wc wc.drew) c1',keepsT ((Below.refl _ wc).drew:Below wc.heap.size wc wc.drew) c2',SD.out.m⟩
 by_cases hcd:cd=0
 ·have y1:(cd != 0)=false:=by simp [hcd]
  have HD2:=hid (show DM=(⟨k2,o2,u2,n2⟩,⟨cd,sb,dd⟩) from by rw [HD.out,if_pos hcd])
  clear hcd HD
  go_upto_region 17 with fail
  clear c0' c1' c2'
  refine wp_region_noPanic ?_
  refine wp_region_held_drew (S:=fun w'=>w'.cell? ⟨D,0,none⟩=some (.int .i64 cd)∧w'.cell? ⟨D,1,none⟩=some (.int .i64 sb)∧w'.cell? ⟨D,2,none⟩=some (.slice Ad dd.length cdd)∧BoxM w' C k2 (ocells o2) U N) (by kernel_rfl) hS (fun h0=>?_)
  refine tk_m 0 69 _ hS (fun _ h=>h.2.2.2) ?_ SD.out.m.parts rfl rfl rfl rfl (by kernel_rfl) rfl (fun _ _ _ h=>h)
  refine Take.tk 1 70 hS ?_
  try simp only [Act.put,Take.nm]
  refine wpAnyH_ready (rs:=[2]) (by kernel_rfl) (by simp) ?_
  refine AllReadyH.cons (o:=_) (by rfl) (fun K1 hK=>?_) AllReadyH.nil
  rw [if_pos (by rfl)]
  refine wp_store_m SD.out.r1 SD.out.m.parts _ _ rfl rfl rfl ?_
  intro w5 hb ht
  have hC:=SD.out.hC
  refine hK.out _ _ ⟨(World.cell?_of_block (ht.block D (by have:=SD.out.low.size;omega))).trans hS.1,(World.cell?_of_block (ht.block D (by omega))).trans hS.2.1,(World.cell?_of_block (ht.block D (by omega))).trans hS.2.2.1,hS.2.2.2.turned ht (by omega)⟩ (fun h1=>?_)
  clear hK K1
  try simp only [Act.put,Take.nm]
  refine wpAnyH_ready (rs:=[3]) (by kernel_rfl) (by simp) ?_
  refine AllReadyH.cons (o:=_) (by rfl) (fun K1 hK=>?_) AllReadyH.nil
  rw [if_pos (by rfl)]
  refine wp_store_b (box3_turned SD.out.r2 ht (Nat.succ_ne_self _)) _ _ rfl rfl rfl (by simp [Value.oneCell']) ?_
  intro w6 hb2 ht2
  refine hK.out _ _ ⟨(World.cell?_of_block (ht2.block D (by omega))).trans ((World.cell?_of_block (ht.block D (by omega))).trans hS.1),(World.cell?_of_block (ht2.block D (by omega))).trans ((World.cell?_of_block (ht.block D (by omega))).trans hS.2.1),(World.cell?_of_block (ht2.block D (by omega))).trans ((World.cell?_of_block (ht.block D (by omega))).trans hS.2.2.1),(hS.2.2.2.turned ht (by omega)).turned ht2 (by omega)⟩ (fun h2=>?_)
  clear hK K1
  simp only [Act.put]
  refine wpAnyH_done (by kernel_rfl) ?_ _
  refine NoPanic.normal ?_
  have E:=hid (note_on ST.out HN.out ht ht2)
  go_wp2_with fail
  refine bodyPost_ret (res_two rfl rfl rfl (hb.turned ht2 (by omega)) hb2) rfl ?_
  rw [HD2.out]
  exact ⟨U,N,_,_,_,rfl,SD.out.m.parts,fun S h1 h2=>firm_on HF.out ht ht2 S h1 h2,E.out.1,E.out.2⟩
 ·have y1:(cd != 0)=true:=by simp [hcd]
  have HD2:=hid (show DM=(zeroM,⟨cd,sb,dd⟩) from by rw [HD.out,if_neg hcd])
  clear hcd HD
  go_upto_region 16 with fail
  clear c0' c1' c2'
  refine wp_region_noPanic ?_
  refine wp_region_held_drew (S:=fun w'=>w'.cell? ⟨D,0,none⟩=some (.int .i64 cd)∧w'.cell? ⟨D,1,none⟩=some (.int .i64 sb)∧w'.cell? ⟨D,2,none⟩=some (.slice Ad dd.length cdd)∧BoxM w' C k2 (ocells o2) U N) (by kernel_rfl) hS (fun h0=>?_)
  refine Take.tk 0 67 hS ?_
  refine Take.tk 1 68 hS ?_
  try simp only [Act.put,Take.nm]
  refine wpAnyH_ready (rs:=[2]) (by kernel_rfl) (by simp) ?_
  refine AllReadyH.cons (o:=_) (by rfl) (fun K1 hK=>?_) AllReadyH.nil
  rw [if_pos (by rfl)]
  refine wp_store_m SD.out.r1 P0.out _ _ rfl rfl rfl ?_
  intro w5 hb ht
  have hC:=SD.out.hC
  refine hK.out _ _ ⟨(World.cell?_of_block (ht.block D (by have:=SD.out.low.size;omega))).trans hS.1,(World.cell?_of_block (ht.block D (by omega))).trans hS.2.1,(World.cell?_of_block (ht.block D (by omega))).trans hS.2.2.1,hS.2.2.2.turned ht (by omega)⟩ (fun h1=>?_)
  clear hK K1
  try simp only [Act.put,Take.nm]
  refine wpAnyH_ready (rs:=[3]) (by kernel_rfl) (by simp) ?_
  refine AllReadyH.cons (o:=_) (by rfl) (fun K1 hK=>?_) AllReadyH.nil
  rw [if_pos (by rfl)]
  refine wp_store_b (box3_turned SD.out.r2 ht (Nat.succ_ne_self _)) _ _ rfl rfl rfl (by simp [Value.oneCell']) ?_
  intro w6 hb2 ht2
  refine hK.out _ _ ⟨(World.cell?_of_block (ht2.block D (by omega))).trans ((World.cell?_of_block (ht.block D (by omega))).trans hS.1),(World.cell?_of_block (ht2.block D (by omega))).trans ((World.cell?_of_block (ht.block D (by omega))).trans hS.2.1),(World.cell?_of_block (ht2.block D (by omega))).trans ((World.cell?_of_block (ht.block D (by omega))).trans hS.2.2.1),(hS.2.2.2.turned ht (by omega)).turned ht2 (by omega)⟩ (fun h2=>?_)
  clear hK K1
  simp only [Act.put]
  refine wpAnyH_done (by kernel_rfl) ?_ _
  refine NoPanic.normal ?_
  have E:=hid (note_on ST.out HN.out ht ht2)
  go_wp2_with fail
  refine bodyPost_ret (res_two rfl rfl rfl (hb.turned ht2 (by omega)) hb2) rfl ?_
  rw [HD2.out]
  exact ⟨zU,zN,_,_,_,rfl,P0.out,fun S _ _ W' _ _=>msgs_plain W' _ _ zeroO_ok,E.out.1,E.out.2⟩
end Msg
namespace Msg
open Go.RowKit Mem Segm Oct Att PR Opn Upd Ntc Frm
open Go.Lib (hid)
theorem pcs_bound (b:List Nat):(pcs b).1.length≤b.length∧∀ s∈(pcs b).1,s.2.length≤b.length∧s.2.length≤4077:=by
 induction hn:b.length using Nat.strongRecOn generalizing b with
 | _ n ih =>
  rw [pcs_step]
  split
  ·exact ⟨Nat.zero_le _,fun s hs=>by cases hs⟩
  ·split
   ·exact ⟨Nat.zero_le _,fun s hs=>by cases hs⟩
   ·rename_i h1 h2
    obtain ⟨-,h4,h5,-⟩:=headH_none (b:=b) (by simpa using h2)
    split
    ·exact ⟨Nat.zero_le _,fun s hs=>by cases hs⟩
    ·have hd:(b.drop (lenH b)).length=b.length - lenH b:=List.length_drop
     obtain ⟨h6,h7⟩:=ih _ (by omega) (b.drop (lenH b)) rfl
     refine ⟨by simp only [List.length_cons];omega,fun s hs=>?_⟩
     rcases List.mem_cons.1 hs with rfl | hs
     ·simp only [List.length_drop,List.length_take];omega
     ·have:=h7 s hs
      omega
def RestM (bad:No) (P:List Pc) (i:Nat) (F:List Ms) (k:Nat):Prop:=readL bad P=(F ++ (readL bad (P.drop i)).1,k+(readL bad (P.drop i)).2.1,(readL bad (P.drop i)).2.2)
section
variable {bad:No} {P:List Pc} {i k:Nat} {F:List Ms} {s:Pc}
theorem restm_start:RestM bad P 0 [] 0:=by simp [RestM]
theorem restm_end (h:RestM bad P i F k) (hi:P.length≤i):readL bad P=(F,k,bad):=by rw [h,List.drop_of_length_le hi];simp [readL]
theorem restm_cons (hs:P[i]?=some s):P.drop i=s :: P.drop (i+1):=by
 obtain ⟨h1,h2⟩:=List.getElem?_eq_some_iff.1 hs
 rw [List.drop_eq_getElem_cons h1,h2]
theorem restm_bad (h:RestM bad P i F k) (hs:P[i]?=some s) (hc:(decM s.1 s.2).2.code≠0):readL bad P=(F,k,(decM s.1 s.2).2):=by
 rw [h,restm_cons hs]
 obtain ⟨t,d⟩:=s
 unfold readL
 rw [if_neg hc]
 simp
theorem restm_more (h:RestM bad P i F k) (hs:P[i]?=some s) (hc:(decM s.1 s.2).2.code=0):RestM bad P (i+1) (F ++ [(decM s.1 s.2).1]) (k+19+s.2.length):=by
 unfold RestM
 rw [h,restm_cons hs]
 obtain ⟨t,d⟩:=s
 conv=>lhs;unfold readL
 rw [if_pos hc]
 simp [Nat.add_assoc]
end
def ReadF (RM:List Ms × Nat × No) (w:World) (e:Ending) (w':World):Prop :=
 ∃ A c x0 x1 x2,e=.returned (.tuple #[.slice A RM.1.length c,.int .i64 (RM.2.1:Nat),.agg #[x0,x1,x2]])∧Msgl w' (.slice A RM.1.length c) RM.1∧Note w' (.agg #[x0,x1,x2]) RM.2.2∧Below w.heap.size w w'
theorem ReadF.drew {RM:List Ms × Nat × No} {w W:World} {e:Ending} (h:ReadF RM w e W):ReadF RM w e W.drew:=by
 obtain ⟨A,c,x0,x1,x2,h1,h2,h3,h4⟩:=h
 have hd:Below W.heap.size W W.drew:=(Below.refl _ _).drew
 exact ⟨A,c,x0,x1,x2,h1,h2.keep hd,h3.keep hd,h4.drew⟩
theorem u8_hole {W W':World} {B:Nat} {v:Value} {l:List Nat} (h:U8s W v l) (hB:∀ i,W.cell? ⟨B,i,none⟩=none) (hk:∀ k,k<W.heap.size→k≠B→W'.heap[k]?=W.heap[k]?) (hs:W.heap.size≤W'.heap.size):U8s W' v l:=by
 obtain ⟨⟨hl,A,c,rfl,hn,hc,hr⟩,hb⟩:=h
 refine ⟨⟨hl,A,c,rfl,hn,hc,fun h0=>?_⟩,hb⟩
 obtain ⟨b,off,rfl,hlt,hcell⟩:=hr h0
 refine ⟨b,off,rfl,Nat.lt_of_lt_of_le hlt hs,fun i x hx=>?_⟩
 have h1:=hcell i x hx
 refine (World.cell?_of_block (hk b hlt (fun e=>?_))).trans h1
 subst e
 rw [hB] at h1
 cases h1
def Pcs (W:World) (pv:Value) (P:List Pc) (qs:List Value):Prop:=Row W 2 pv P.length (frmCells P qs)∧Bods W P qs
theorem Pcs.keep {W W':World} {pv:Value} {P:List Pc} {qs:List Value} (h:Pcs W pv P qs) (hb:Below W.heap.size W W'):Pcs W' pv P qs:=⟨h.1.keep hb,h.2.keep hb⟩
theorem Pcs.at_ {W:World} {A:Option Addr} {n c k:Nat} {P:List Pc} {qs:List Value} {s:Pc} (h:Pcs W (.slice A n c) P qs) (hk:P[k]?=some s) :
  ∃ b off x,A=some ⟨b,off,none⟩∧b<W.heap.size∧W.cell? ⟨b,off+k*2,none⟩=some (.int .i64 (s.1:Nat))∧W.cell? ⟨b,off+k*2+1,none⟩=some x∧U8s W x s.2∧x∈qs:=by
 obtain ⟨⟨hl,A',c',e,hn,hc,hr⟩,hq⟩:=h
 injection e with e1 e2 e3
 subst e1 e3
 have hlt:k<P.length:=(List.getElem?_eq_some_iff.1 hk).1
 obtain ⟨b,off,rfl,hb,hcell⟩:=hr (by omega)
 have hlt2:k<qs.length:=by rw [hq.1];exact hlt
 have hx:=List.getElem?_eq_getElem hlt2
 obtain ⟨h1,h2⟩:=frmCells_at k P qs s _ hk hx
 exact ⟨b,off,_,rfl,hb,hcell _ _ h1,by rw [Nat.add_assoc];exact hcell _ _ h2,hq.2 k s _ hk hx,List.getElem_mem hlt2⟩
theorem Pcs.cell {W:World} {b off n c k:Nat} {P:List Pc} {qs:List Value} (h:Pcs W (.slice (some ⟨b,off,none⟩) n c) P qs) (hk:k<P.length):W.cell? ⟨b,off+k*2+1,none⟩=(frmCells P qs)[k*2+1]?:=by
 obtain ⟨⟨hl,A',c',e,hn,hc,hr⟩,hq⟩:=h
 injection e with e1 e2 e3
 subst e1
 obtain ⟨b',off',e,-,hcell⟩:=hr (by omega)
 injection e with e
 injection e with e4 e5
 subst e4 e5
 have h2:k*2+1<(frmCells P qs).length:=by omega
 rw [List.getElem?_eq_getElem h2,Nat.add_assoc]
 exact hcell _ _ (List.getElem?_eq_getElem h2)
theorem pcs_hole {W W':World} {B:Nat} {v:Value} {P:List Pc} {q:List Value} (h:Pcs W v P q) (hB:∀ i,W.cell? ⟨B,i,none⟩=none) (hk:∀ k,k<W.heap.size→k≠B→W'.heap[k]?=W.heap[k]?) (hs:W.heap.size≤W'.heap.size):Pcs W' v P q:=by
 obtain ⟨⟨hl,A,c,rfl,hn,hc,hr⟩,h2⟩:=h
 refine ⟨⟨hl,A,c,rfl,hn,hc,fun h0=>?_⟩,⟨h2.1,fun k s x e1 e2=>u8_hole (h2.2 k s x e1 e2) hB hk hs⟩⟩
 obtain ⟨b,off,rfl,hb,hcell⟩:=hr h0
 refine ⟨b,off,rfl,Nat.lt_of_lt_of_le hb hs,fun i x hx=>?_⟩
 have h1:=hcell i x hx
 refine (World.cell?_of_block (hk b hb (fun e=>?_))).trans h1
 subst e
 rw [hB] at h1
 cases h1
theorem bods_in {W:World} {P:List Pc} {q:List Value} {x:Value} (h:Bods W P q) (hx:x∈q):∃ l,U8s W x l:=by
 obtain ⟨k,hk,e⟩:=List.getElem_of_mem hx
 have hk2:k<P.length:=by rw [← h.1];exact hk
 exact ⟨_,h.2 k P[k] x (List.getElem?_eq_getElem hk2) (by rw [List.getElem?_eq_getElem hk,e])⟩
theorem apart_hole {W:World} {B:Nat} {P:List Pc} {q:List Value} {v:Value} (h:Bods W P q) (hB:∀ i,W.cell? ⟨B,i,none⟩=none) (hv:v.ownBlock=some B):Frm.Apart v q:=fun x hx b off m c e hm e2=>by
 obtain ⟨l,hu⟩:=bods_in h hx
 obtain ⟨⟨hl,A,c',e3,hn,_,hr⟩,_⟩:=hu
 rw [e] at e3
 injection e3 with e3 e4 _
 obtain ⟨b',off',e5,_,hcell⟩:=hr (by omega)
 rw [← e3] at e5
 injection e5 with e5
 injection e5 with e5 e6
 have h0:0<(cells8 l).length:=by unfold cells8;rw [List.length_map];omega
 have h1:=hcell 0 _ (List.getElem?_eq_getElem h0)
 rw [hv] at e2
 injection e2 with e2
 rw [← e5,← e2,hB] at h1
 cases h1
structure RrSt (w:World) (pv:Value) (P:List Pc) (qs:List Value) (D:Nat) (y0 y1 y2:Value) (n:No) (F:List Ms) (A:Option Addr) (cp:Nat) (W:World):Prop where
 box:Box3 W w.heap.size 34 (.int .i64 0) (.int .i64 0) (.slice none 0 0)
 low:Below w.heap.size w W
 own:OwnMsgl (fun j=>j≠w.heap.size) 36 (w.heap.size+1) W (.slice A F.length cp) F
 apart:Frm.Apart (.slice A F.length cp) qs
 firm:Firm W (fun j=>(Value.slice A F.length cp).ownBlock≠some j) (fun W=>Pcs W pv P qs∧Note W (.agg #[y0,y1,y2]) n∧Box3 W D 34 y0 y1 y2)
theorem RrSt.keep {w W W':World} {pv:Value} {P:List Pc} {qs:List Value} {D:Nat} {y0 y1 y2:Value} {n:No} {F:List Ms} {A:Option Addr} {cp:Nat} (h:RrSt w pv P qs D y0 y1 y2 n F A cp W) (hb:Below W.heap.size W W'):RrSt w pv P qs D y0 y1 y2 n F A cp W' :=
 ⟨h.box.keep hb,h.low.trans (hb.mono h.low.size),h.own.keep hb,h.apart,h.firm.keep hb⟩
theorem rr_start {w x:World} {pv:Value} {P:List Pc} {n:No} {A2:Option Addr} {k2 c2:Nat} {qs:List Value} (hp:Pcs x pv P qs) (hd:U8s x (.slice A2 k2 c2) n.data) (h1:(Lit.int .i64 n.code).wf=true) (h2:(Lit.int .i64 n.sub).wf=true)
  (hb:Below ((w.alloc (.cells #[.int .i64 0,.int .i64 0,.slice none 0 0] 34)).alloc (.cells #[] 36)).heap.size ((w.alloc (.cells #[.int .i64 0,.int .i64 0,.slice none 0 0] 34)).alloc (.cells #[] 36)) x) :
  RrSt w pv P qs x.heap.size (.int .i64 n.code) (.int .i64 n.sub) (.slice A2 k2 c2) n [] (some ⟨w.heap.size+1,0,none⟩) 0 (x.alloc (.cells #[.int .i64 n.code,.int .i64 n.sub,.slice A2 k2 c2] 34)):=by
 have hs:(w.alloc (.cells #[.int .i64 0,.int .i64 0,.slice none 0 0] 34)).heap.size=w.heap.size+1:=by simp
 have h3:=(Below.refl (w.alloc (.cells #[.int .i64 0,.int .i64 0,.slice none 0 0] 34)).heap.size (w.alloc (.cells #[.int .i64 0,.int .i64 0,.slice none 0 0] 34))).alloc (Nat.le_refl _) (.cells #[] 36)
 have h4:=heap_alloc_new (w.alloc (.cells #[.int .i64 0,.int .i64 0,.slice none 0 0] 34)) (.cells #[] 36)
 rw [hs] at h4
 have hX:=Box3.new w 34 (.int .i64 0) (.int .i64 0) (.slice none 0 0)
 have hB:=box_low w (.int .i64 0) (.int .i64 0) (.slice none 0 0)
 have hs2:((w.alloc (.cells #[.int .i64 0,.int .i64 0,.slice none 0 0] 34)).alloc (.cells #[] 36)).heap.size=w.heap.size+2:=by simp
 have h5:=box_low x (.int .i64 n.code) (.int .i64 n.sub) (.slice A2 k2 c2)
 have h6:=hb.block (w.heap.size+1) (by omega)
 have hx2:w.heap.size+2≤x.heap.size:=by have:=hb.size;omega
 have h7:=h5.block (w.heap.size+1) (by omega)
 have hall:Below ((w.alloc (.cells #[.int .i64 0,.int .i64 0,.slice none 0 0] 34)).alloc (.cells #[] 36)).heap.size ((w.alloc (.cells #[.int .i64 0,.int .i64 0,.slice none 0 0] 34)).alloc (.cells #[] 36)) (x.alloc (.cells #[.int .i64 n.code,.int .i64 n.sub,.slice A2 k2 c2] 34)):=hb.trans (h5.mono hb.size)
 have hlow:=hB.trans (h3.mono hB.size)
 have hcell:∀ i,(x.alloc (.cells #[.int .i64 n.code,.int .i64 n.sub,.slice A2 k2 c2] 34)).cell? ⟨w.heap.size+1,i,none⟩=none:=fun i=>by
  have:=h7.trans (h6.trans h4)
  unfold World.cell?
  dsimp only
  rw [this]
  simp
 have hbox:=Box3.new x 34 (.int .i64 n.code) (.int .i64 n.sub) (.slice A2 k2 c2)
 refine ⟨(hX.keep h3).keep hall,hlow.trans (hall.mono hlow.size),⟨[],⟨rfl,.inr ⟨w.heap.size+1,0,#[],rfl,Nat.le_refl _,h7.trans (h6.trans h4),Nat.le_refl _,by decide,rfl,rfl⟩⟩,Rows.nil _ _ _⟩,apart_hole (hp.keep h5).2 hcell rfl,fun W' hk hs=>?_⟩
 have hk2:∀ k,k<(x.alloc (.cells #[.int .i64 n.code,.int .i64 n.sub,.slice A2 k2 c2] 34)).heap.size→k≠w.heap.size+1→W'.heap[k]?=(x.alloc (.cells #[.int .i64 n.code,.int .i64 n.sub,.slice A2 k2 c2] 34)).heap[k]?:=fun k h1 h2=>hk k h1 (fun e=>h2 (by
  simp only [Value.ownBlock,Option.some.injEq] at e
  exact e.symm))
 exact ⟨pcs_hole (hp.keep h5) hcell hk2 hs,⟨h1,h2,_,rfl,u8_hole (hd.keep h5) hcell hk2 hs⟩,hbox.below (fun k hk3=>hk2 k (by subst hk3;simp) (by omega))⟩
theorem rr_end {w W:World} {pv:Value} {P:List Pc} {qs:List Value} {D k:Nat} {y0 y1 y2 z0 z1 z2:Value} {n n2:No} {F:List Ms} {A:Option Addr} {cp:Nat} (h:RrSt w pv P qs D y0 y1 y2 n F A cp W) (hn:Note W (.agg #[z0,z1,z2]) n2) :
  ReadF (F,k,n2) w (.returned (.tuple #[.slice A F.length cp,.int .i64 (k:Nat),.agg #[z0,z1,z2]])) (three W w.heap.size z0 z1 z2):=by
 have ho:=three_off W w.heap.size z0 z1 z2
 obtain ⟨q1,q2,vd,e,hd⟩:=hn
 exact ⟨A,cp,z0,z1,z2,rfl,(h.own.off (fun e=>e rfl) (Nat.lt_succ_self _) ho.1 ho.2).msgl,⟨q1,q2,vd,e,u8_apart hd (h.box.no8 (no8_i _) (no8_i _) (no8_s _ _ _)) ho.1 ho.2⟩,three_low h.low _ (Nat.le_refl _) _ _ _⟩
theorem rr_more {w y X W':World} {pv:Value} {P:List Pc} {qs:List Value} {D:Nat} {y0 y1 y2:Value} {n:No} {F:List Ms} {A A':Option Addr} {cp c':Nat} {q:List (List Value)} {x:List Value} {m:Ms} (hst:RrSt w pv P qs D y0 y1 y2 n F A cp y) (hX:Below y.heap.size y X) (h2:Rows (fun j=>j≠w.heap.size) y (.slice A F.length cp) F q)
  (hx:Firm y (fun j=>j≠w.heap.size∧(Value.slice A F.length cp).ownBlock≠some j) (fun W=>Msgs W (.agg x.toArray) m)) (hown:W'.ownsRow (w.heap.size+1) 36 19 (.slice A' (F.length+1) c') (F.length+1) (q.flatten ++ x)) (hg:X.grownBy W' (Value.slice A F.length cp).ownBlock)
  (hat:(Value.slice A' (F.length+1) c').ownBlock=(Value.slice A F.length cp).ownBlock∨(Value.slice A' (F.length+1) c').ownBlock=some X.heap.size) (hb:Below (w.heap.size+1) X W'):RrSt w pv P qs D y0 y1 y2 n (F ++ [m]) A' c' W':=by
 have hlow:=hst.low.trans (hX.mono hst.low.size)
 have hX2:=hlow.trans (hb.mono (Nat.le_succ _))
 have hb1:w.heap.size<X.heap.size:=Nat.lt_of_lt_of_le hst.box.lt hX.size
 have hl:(F ++ [m]).length=F.length+1:=by simp
 have hb0:(Value.slice A' (F.length+1) c').ownBlock=(Value.slice A F.length cp).ownBlock∨∀ j,j<y.heap.size→(Value.slice A' (F.length+1) c').ownBlock≠some j:=hat.imp_right (fun h j hj e=>by
  rw [h] at e
  injection e with e
  have:=hX.size
  omega)
 refine ⟨(hst.box.keep hX).below (fun k hk=>hb.block k (by omega)),hX2,?_,?_,?_⟩
 ·rw [hl]
  refine msgl_grown hX h2 (Rows.one hx) hg hat hX.size rfl (by simpa using hown)
 ·rw [hl]
  intro z hz b off k c e hm
  rcases hb0 with h | h
  ·rw [h];exact hst.apart z hz b off k c e hm
  ·obtain ⟨l,hu⟩:=bods_in hst.firm.now.1.2 hz
   rw [e] at hu
   exact h b (u8_lt hu hm)
 ·rw [hl]
  refine hst.firm.on (fun j hj hS=>⟨?_,(hg.block j (Nat.lt_of_lt_of_le hj hX.size) (fun e=>hS e.symm)).trans (hX.block j hj)⟩) (Nat.le_trans hX.size hg.size)
  rcases hb0 with h | h
  ·rw [h];exact hS
  ·exact h j hj
theorem elemMs:∃ i,IsElem Tryz.prog 46 36 19 208 i (.agg z19):=IsElem.mk_ Tryz.underlying46 (by kernel_rfl) rfl (by decide)
section
variable {o:Oper} {a:Act} {w:World} {Q:Exit→Act→World→Prop} {K:Act→World→Prop}
theorem wp_alloc_m (d:Nat) (hd:o.dst=some d) (ho:o.op=.alloc 36) (h:∀ w',BoxM w' w.heap.size 0 (ocells zeroO) zU zN→Below w.heap.size w w'→w'.heap.size=w.heap.size+1→K (a.put (some d) (.pointer (some ⟨w.heap.size,0,none⟩))) w'):o.wp Tryz.prog a w K Q:=by
 obtain ⟨op,dst,ty,pos,after,guard⟩:=o
 dsimp only at hd ho h ⊢
 subst ho hd
 have h1:=h (w.alloc (.cells z19 36)) (by have h1:=BoxM.new w 36 0 (parts_z zeroO);rwa [← z19_is] at h1) (box_msg w z19) (by simp)
 unfold z19 at h1
 go_simp
 exact h1
theorem wp_alloc_b (d:Nat) (hd:o.dst=some d) (ho:o.op=.alloc 34) (h:∀ w',Box3 w' w.heap.size 34 (.int .i64 0) (.int .i64 0) (.slice none 0 0)→Below w.heap.size w w'→w'.heap.size=w.heap.size+1→K (a.put (some d) (.pointer (some ⟨w.heap.size,0,none⟩))) w'):o.wp Tryz.prog a w K Q:=by
 obtain ⟨op,dst,ty,pos,after,guard⟩:=o
 dsimp only at hd ho h ⊢
 subst ho hd
 have h1:=h (w.alloc (.cells #[.int .i64 0,.int .i64 0,.slice none 0 0] 34)) (Box3.new w _ _ _ _) (box_low w _ _ _) (by simp)
 go_simp
 exact h1
end
def Mid (R:Nat) (y:World) (v:Value) (k:Int) (b:List Nat) (s11 s12:Value) (W:World):Prop :=
 ∃ B C U N x0 x1 x2,s11=.pointer (some ⟨B,0,none⟩)∧s12=.pointer (some ⟨C,0,none⟩)∧BoxM W B (decM k b).1.kind (ocells (decM k b).1.op) U N∧Box3 W C 34 x0 x1 x2∧Note W (.agg #[x0,x1,x2]) (decM k b).2 ∧
  Firm W (fun j=>j≠R∧v.ownBlock≠some j) (fun W=>Msgs W (.agg (mcells (decM k b).1.kind (ocells (decM k b).1.op) U N).toArray) (decM k b).1)∧Below y.heap.size y W∧y.heap.size≤B
theorem note_ones {W:World} {x0 x1 x2:Value} {n:No} (h:Note W (.agg #[x0,x1,x2]) n):∀ v∈[x0,x1,x2],v.oneCell'=true:=by
 obtain ⟨-,-,vd,e,hd⟩:=h
 injection e with e
 obtain ⟨rfl,rfl,rfl⟩:x0=.int .i64 n.code∧x1=.int .i64 n.sub∧x2=vd:=by simpa using e
 obtain ⟨A,c,rfl,-,-⟩:=hd.form
 simp [Value.oneCell']
theorem rr_firm {w y u:World} {pv xv:Value} {P:List Pc} {qs:List Value} {D U0:Nat} {y0 y1 y2:Value} {n:No} {F:List Ms} {A:Option Addr} {cp:Nat} {d:List Nat} {Φ:World→Prop} (h:RrSt w pv P qs D y0 y1 y2 n F A cp y) (hx:xv∈qs) (hu:U8s y xv d) (h0:y.heap.size≤U0)
  (hf:∀ S:Nat→Prop,(∀ j,U0≤j→S j)→(∀ j,0<d.length→xv.ownBlock=some j→j<U0→S j)→Firm u S Φ):Firm u (fun j=>(j≠w.heap.size∧(Value.slice A F.length cp).ownBlock≠some j)∧¬ (y.heap.size≤j∧j<U0)) Φ:=by
 have hs:=h.box.lt
 obtain ⟨q,h1,-⟩:=h.own
 refine hf _ (fun j hj=>⟨⟨by omega,fun e=>by have:=(h1.lt j e).2;omega⟩,by omega⟩) (fun j hd hj hl=>?_)
 obtain ⟨A1,c1,rfl,-,-⟩:=hu.form
 obtain ⟨b,off,x,rfl,hb,-,-,hcell⟩:=hu.at_ hd
 simp only [Value.ownBlock,Option.some.injEq] at hj
 subst hj
 refine ⟨⟨fun e=>?_,h.apart _ hx _ _ _ _ rfl hd⟩,by omega⟩
 rw [e] at hcell
 exact h.box.no8 (no8_i _) (no8_i _) (no8_s _ _ _) _ _ hcell
theorem rr_mid {y u W3 W4 W5:World} {v:Value} {k k0:Int} {b:List Nat} {R B C U0:Nat} {U N O1 U1 N1:List Value} {x0 x1 x2 z0 z1 z2:Value} (hHY:Below y.heap.size y W3) (hHU:Below u.heap.size u W3) (h1:BoxM W3 B k0 O1 U1 N1) (h2:Box3 W3 C 34 z0 z1 z2) (k2:No8 z0∧No8 z1∧No8 z2) (hne:B≠C)
  (hB:y.heap.size≤B∧(B<U0∨u.heap.size≤B)) (hC:y.heap.size≤C∧(C<U0∨u.heap.size≤C)) (hn:Note u (.agg #[x0,x1,x2]) (decM k b).2) (hf:Firm u (fun j=>(j≠R∧v.ownBlock≠some j)∧¬ (y.heap.size≤j∧j<U0)) (fun W=>Msgs W (.agg (mcells (decM k b).1.kind (ocells (decM k b).1.op) U N).toArray) (decM k b).1))
  (h4:BoxM W4 B (decM k b).1.kind (ocells (decM k b).1.op) U N) (t4:Turned B W3 W4) (h5:Box3 W5 C 34 x0 x1 x2) (t5:Turned C W4 W5):Mid R y v k b (.pointer (some ⟨B,0,none⟩)) (.pointer (some ⟨C,0,none⟩)) W5:=by
 refine ⟨B,C,U,N,x0,x1,x2,rfl,rfl,h4.turned t5 hne,h5,?_,hf.on (fun j hj hS=>⟨hS.1,?_⟩) ?_,t5.low hC.1 (t4.low hB.1 hHY),hB.1⟩
 ·obtain ⟨q1,q2,vd,e,hd⟩:=hn
  exact ⟨q1,q2,vd,e,u8_apart (u8_apart (hd.keep hHU) h1.no8 t4.block (Nat.le_of_eq t4.size.symm)) ((box3_turned h2 t4 (fun e=>hne e.symm)).no8 k2.1 k2.2.1 k2.2.2) t5.block (Nat.le_of_eq t5.size.symm)⟩
 ·have hS2:=hS.2
  exact (t5.block j (by omega)).trans ((t4.block j (by omega)).trans (hHU.block j hj))
 ·rw [t5.size,t4.size];exact hHU.size
theorem rread13 (v : Value) (b : List Nat) (w : World) (hv : U8s w v b) (hl : b.length ≤ 1600)
    (hDec:∀ (k:Int) (v:Value) (b:List Nat) (W:World),U8s W v b→b.length≤1600→b.length≤4077→Calls Tryz.prog 21 #[.int .i64 k,v] W (DecG k b v W)):Calls Tryz.prog 23 #[v] w (ReadF (readM b) w):=by
  obtain ⟨A0,c,rfl,hc,hc2⟩:=hv.form
  have HV:=hid hv
  have B1:=hid (box_low w (.int .i64 0) (.int .i64 0) (.slice none 0 0))
  have B2:=hid ((Below.refl (w.alloc (.cells #[.int .i64 0,.int .i64 0,.slice none 0 0] 34)).heap.size (w.alloc (.cells #[.int .i64 0,.int .i64 0,.slice none 0 0] 34))).alloc (Nat.le_refl _) (.cells #[] 36))
  have VV:=hid ((hv.keep B1.out).keep B2.out)
  clear B1 B2 hv
  have CP:=hid (pieces_any (.slice A0 b.length c) b _ VV.out (by omega))
  have HB:=hid (pcs_bound b)
  have HW:=hid (pcs_wf b)
  have HR:=hid (show readM b=readL (pcs b).2.2 (pcs b).1 from rfl)
  unfold PiecesF at CP
  generalize readM b=RM at HR ⊢
  generalize (pcs b).1=P at CP HB HR
  generalize (pcs b).2.1=k0 at CP
  generalize (pcs b).2.2=n at CP HW HR
  go_enter Tryz.func23,Tryz.ntmps23
  go_wp2_with (go_at_call 52;refine (CP.out).mono ?_;rintro e x ⟨Ap,cp,A2,k2,c2x,rfl,hp,hU,hb⟩;obtain ⟨qs,hp⟩:=hp;have ST:=hid (rr_start (hp:Pcs _ _ _ qs) hU HW.out.1 HW.out.2 hb);clear hp hU hb)
  clear CP HV VV HW hc hc2
  obtain ⟨cd,sb,dd⟩:=n
  dsimp only at ST ⊢
  generalize x.alloc (.cells #[.int .i64 cd,.int .i64 sb,.slice A2 k2 c2x] 34)=W0 at ST ⊢
  generalize x.heap.size=D at ST ⊢
  go_loopw [5,6,10] (fun v5 v6 v10 wx=>∃ (i k:Nat) (F:List Ms) (A:Option Addr) (ca:Nat),i≤P.length∧F.length≤i∧k≤i*5000∧v10=.int .i64 i∧v6=.int .i64 k∧v5=.slice A F.length ca∧Hid (RestM ⟨cd,sb,dd⟩ P i F k)∧Hid (RrSt w (.slice Ap P.length cp) P qs D (.int .i64 cd) (.int .i64 sb) (.slice A2 k2 c2x) ⟨cd,sb,dd⟩ F A ca wx)) (fun _ _ v10 _=>P.length - (intOf v10).toNat)
  case atStart=>exact ⟨0,0,[],_,0,Nat.zero_le _,Nat.le_refl _,Nat.le_refl _,rfl,rfl,rfl,hid restm_start,ST⟩
  case round =>
    obtain ⟨i,k,F,A,ca,hi,hF,hk,rfl,rfl,rfl,HS,ST⟩:=hrel
    by_cases hlt:P.length≤i
    · have z1 : ¬ ((i : Int) < (P.length : Int)) := by omega
      have E:=hid (restm_end HS.out hlt)
      clear hlt HS
      obtain ⟨c0,c1,c2⟩:=ST.out.box.cells
      have ff:=ST.out.box.free
      obtain ⟨d0,d1,d2⟩:=ST.out.firm.now.2.2.cells
      obtain rfl:=HR.out.trans E.out
      go_wp2
      go_region
      go_wp2
      (try simp only [Exit.inBlock,Exit.then])
      have r0:=(ST.out.box.set0 (.int .i64 cd)).cells.1
      have r1:=((ST.out.box.set0 (.int .i64 cd)).set1 (.int .i64 sb)).cells.2.1
      have r2:=(ST.out.box.laid (.int .i64 cd) (.int .i64 sb) (.slice A2 k2 c2x)).cells.2.2
      unfold three at r2
      refine bodyPost_ret (v:=.tuple #[.slice A F.length ca,.int .i64 (k:Nat),.agg #[.int .i64 cd,.int .i64 sb,.slice A2 k2 c2x]]) (by simp [results,Tryz.results23,go_sem,r0,r1,r2]) rfl ?_
      exact (rr_end ST.out ST.out.firm.now.2.1).drew
    · have hlt2 : i < P.length := by omega
      have z1:(i:Int)<(P.length:Int):=by omega
      have hPi:=List.getElem?_eq_getElem hlt2
      obtain ⟨hd1,hd2⟩:=HB.out.2 _ (List.getElem_mem hlt2)
      generalize P[i]=s at hPi hd1 hd2
      obtain ⟨t,d⟩:=s
      dsimp only at hd1 hd2
      obtain ⟨bp,off,xv,rfl,hbp,hc1,hc2,hud,hxq⟩:=ST.out.firm.now.1.at_ hPi
      have HC:=hid (And.intro hc1 hc2)
      have VD:=hid hud
      have HX:=hid hxq
      have HP:=hid hPi
      dsimp only at VD HC
      clear hc1 hc2 hud hxq hPi hlt
      go_upto_region 6 with fail
      have HT:=hid (keepsT (Below.refl _ wr).drew HC.out.1)
      have CD:=hid hDec
      clear hDec
      go_cut [11,12] from 26 to 58 (fun s11 s12 wx=>Hid (Mid w.heap.size wr (.slice A F.length ca) t d s11 s12 wx))
      case first =>
        refine wp_region_noPanic ?_
        refine wp_region_held_drew (S:=fun w'=>w'.cell? ⟨bp,off+i*2,none⟩=some (.int .i64 (t:Nat))∧w'.cell? ⟨bp,off+i*2+1,none⟩=some xv) (by kernel_rfl) ⟨keepsT (Below.refl _ wr).drew HC.out.1,keepsT (Below.refl _ wr).drew HC.out.2⟩ (fun hS=>?_)
        refine Take.tk 0 27 hS ?_
        refine Take.tk 1 28 hS ?_
        refine Take.tk 2 29 hS ?_
        try simp only [Act.put,Take.nm]
        refine Take.tk 3 30 hS ?_
        refine Take.tk 4 31 hS ?_
        refine Take.tk 5 32 hS ?_
        try simp only [Act.put,Take.nm]
        refine Take.tk 6 33 hS ?_
        refine Take.tk 7 34 hS ?_
        refine Take.tk 8 35 hS ?_
        try simp only [Act.put,Take.nm]
        refine Take.tk 9 36 hS ?_
        try simp only [Act.put,Take.nm]
        have HY:=hid ((Below.refl _ wr).drew:Below wr.heap.size wr wr.drew)
        refine wpAnyH_ready (rs:=[10,14,15]) (by kernel_rfl) (by simp) ?_
        refine AllReadyH.cons (o:=_) (by rfl) (fun K1 hK=>?_) (AllReadyH.cons (o:=_) (by rfl) (fun K1 hK=>?_) (AllReadyH.cons (o:=_) (by rfl) (fun K1 hK=>?_) AllReadyH.nil))
        all_goals
          rw [if_pos (by rfl)]
          first
            | (refine wp_alloc_m 11 rfl rfl ?_
               intro w2 hbx hb hz
               have MB:=hid hbx
               have SB:=hid HY.out.size
               (try have KB:=hid HU.out.size)
               (try have NE:=hid (Nat.ne_of_gt NB.out.lt))
               (try replace NB:=hid (NB.out.keep hb))
               (try replace HU:=hid (HU.out.trans (hb.mono HU.out.size)))
               replace HY:=hid (HY.out.trans (hb.mono HY.out.size))
               refine hK.out _ _ ⟨keepsT hb hS.1,keepsT hb hS.2⟩ (fun hS2=>?_)
               clear hK K1 hbx hb hz hS
               have hS:=hS2
               clear hS2
               try simp only [Act.put,Take.nm])
            | (refine wp_alloc_b 12 rfl rfl ?_
               intro w2 hbx hb hz
               have NB:=hid hbx
               have SC:=hid HY.out.size
               (try have KC:=hid HU.out.size)
               (try have NE:=hid (Nat.ne_of_lt MB.out.lt))
               (try replace MB:=hid (MB.out.keep hb))
               (try replace HU:=hid (HU.out.trans (hb.mono HU.out.size)))
               replace HY:=hid (HY.out.trans (hb.mono HY.out.size))
               refine hK.out _ _ ⟨keepsT hb hS.1,keepsT hb hS.2⟩ (fun hS2=>?_)
               clear hK K1 hbx hb hz hS
               have hS:=hS2
               clear hS2
               try simp only [Act.put,Take.nm])
            | (go_simp
               go_at_call 21
               refine (CD.out _ _ _ _ (VD.out.keep HY.out) (by omega) hd2).mono ?_
               rintro e u ⟨U,N,x0,x1,x2,rfl,hp,hf,hn,hb⟩
               have DP:=hid hp
               have FF:=hid (rr_firm ST.out HX.out VD.out HY.out.size hf)
               have HN:=hid hn
               have QN:=hid (note_ones hn)
               have HU:=hid (Below.refl u.heap.size u)
               (try have KB:=hid MB.out.lt)
               (try have KC:=hid NB.out.lt)
               (try replace MB:=hid (MB.out.keep hb))
               (try replace NB:=hid (NB.out.keep hb))
               replace HY:=hid (HY.out.trans (hb.mono HY.out.size))
               (try go_wp2_with fail)
               refine hK.out _ _ ⟨keepsT hb hS.1,keepsT hb hS.2⟩ (fun hS2=>?_)
               clear hK K1 hp hf hn hb hS
               have hS:=hS2
               clear hS2
               try simp only [Act.put,Take.nm]
               refine Take.tk 11 26 hS ?_
               refine Take.tk 12 38 hS ?_
               refine Take.tk 13 39 hS ?_
               try simp only [Act.put,Take.nm])
        all_goals
          first
            | (have tok0:=HU.out;clear tok0;refine wpAnyH_ready (rs:=[14,15]) (by kernel_rfl) (by simp) ?_)
            | (have tok0:=MB.out;clear tok0;refine wpAnyH_ready (rs:=[10,15]) (by kernel_rfl) (by simp) ?_)
            | (have tok0:=NB.out;clear tok0;refine wpAnyH_ready (rs:=[10,14]) (by kernel_rfl) (by simp) ?_)
          refine AllReadyH.cons (o:=_) (by rfl) (fun K1 hK=>?_) (AllReadyH.cons (o:=_) (by rfl) (fun K1 hK=>?_) AllReadyH.nil)
        all_goals
          rw [if_pos (by rfl)]
          first
            | (refine wp_alloc_m 11 rfl rfl ?_
               intro w2 hbx hb hz
               have MB:=hid hbx
               have SB:=hid HY.out.size
               (try have KB:=hid HU.out.size)
               (try have NE:=hid (Nat.ne_of_gt NB.out.lt))
               (try replace NB:=hid (NB.out.keep hb))
               (try replace HU:=hid (HU.out.trans (hb.mono HU.out.size)))
               replace HY:=hid (HY.out.trans (hb.mono HY.out.size))
               refine hK.out _ _ ⟨keepsT hb hS.1,keepsT hb hS.2⟩ (fun hS2=>?_)
               clear hK K1 hbx hb hz hS
               have hS:=hS2
               clear hS2
               try simp only [Act.put,Take.nm])
            | (refine wp_alloc_b 12 rfl rfl ?_
               intro w2 hbx hb hz
               have NB:=hid hbx
               have SC:=hid HY.out.size
               (try have KC:=hid HU.out.size)
               (try have NE:=hid (Nat.ne_of_lt MB.out.lt))
               (try replace MB:=hid (MB.out.keep hb))
               (try replace HU:=hid (HU.out.trans (hb.mono HU.out.size)))
               replace HY:=hid (HY.out.trans (hb.mono HY.out.size))
               refine hK.out _ _ ⟨keepsT hb hS.1,keepsT hb hS.2⟩ (fun hS2=>?_)
               clear hK K1 hbx hb hz hS
               have hS:=hS2
               clear hS2
               try simp only [Act.put,Take.nm])
            | (go_simp
               go_at_call 21
               refine (CD.out _ _ _ _ (VD.out.keep HY.out) (by omega) hd2).mono ?_
               rintro e u ⟨U,N,x0,x1,x2,rfl,hp,hf,hn,hb⟩
               have DP:=hid hp
               have FF:=hid (rr_firm ST.out HX.out VD.out HY.out.size hf)
               have HN:=hid hn
               have QN:=hid (note_ones hn)
               have HU:=hid (Below.refl u.heap.size u)
               (try have KB:=hid MB.out.lt)
               (try have KC:=hid NB.out.lt)
               (try replace MB:=hid (MB.out.keep hb))
               (try replace NB:=hid (NB.out.keep hb))
               replace HY:=hid (HY.out.trans (hb.mono HY.out.size))
               (try go_wp2_with fail)
               refine hK.out _ _ ⟨keepsT hb hS.1,keepsT hb hS.2⟩ (fun hS2=>?_)
               clear hK K1 hp hf hn hb hS
               have hS:=hS2
               clear hS2
               try simp only [Act.put,Take.nm]
               refine Take.tk 11 26 hS ?_
               refine Take.tk 12 38 hS ?_
               refine Take.tk 13 39 hS ?_
               try simp only [Act.put,Take.nm])
        all_goals
          first
            | (have tok0:=MB.out;have tok1:=NB.out;clear tok0 tok1;refine wpAnyH_ready (rs:=[10]) (by kernel_rfl) (by simp) ?_)
            | (have tok0:=HU.out;have tok1:=NB.out;clear tok0 tok1;refine wpAnyH_ready (rs:=[14]) (by kernel_rfl) (by simp) ?_)
            | (have tok0:=HU.out;have tok1:=MB.out;clear tok0 tok1;refine wpAnyH_ready (rs:=[15]) (by kernel_rfl) (by simp) ?_)
          refine AllReadyH.cons (o:=_) (by rfl) (fun K1 hK=>?_) AllReadyH.nil
        all_goals
          rw [if_pos (by rfl)]
          first
            | (refine wp_alloc_m 11 rfl rfl ?_
               intro w2 hbx hb hz
               have MB:=hid hbx
               have SB:=hid HY.out.size
               (try have KB:=hid HU.out.size)
               (try have NE:=hid (Nat.ne_of_gt NB.out.lt))
               (try replace NB:=hid (NB.out.keep hb))
               (try replace HU:=hid (HU.out.trans (hb.mono HU.out.size)))
               replace HY:=hid (HY.out.trans (hb.mono HY.out.size))
               refine hK.out _ _ ⟨keepsT hb hS.1,keepsT hb hS.2⟩ (fun hS2=>?_)
               clear hK K1 hbx hb hz hS
               have hS:=hS2
               clear hS2
               try simp only [Act.put,Take.nm])
            | (refine wp_alloc_b 12 rfl rfl ?_
               intro w2 hbx hb hz
               have NB:=hid hbx
               have SC:=hid HY.out.size
               (try have KC:=hid HU.out.size)
               (try have NE:=hid (Nat.ne_of_lt MB.out.lt))
               (try replace MB:=hid (MB.out.keep hb))
               (try replace HU:=hid (HU.out.trans (hb.mono HU.out.size)))
               replace HY:=hid (HY.out.trans (hb.mono HY.out.size))
               refine hK.out _ _ ⟨keepsT hb hS.1,keepsT hb hS.2⟩ (fun hS2=>?_)
               clear hK K1 hbx hb hz hS
               have hS:=hS2
               clear hS2
               try simp only [Act.put,Take.nm])
            | (go_simp
               go_at_call 21
               refine (CD.out _ _ _ _ (VD.out.keep HY.out) (by omega) hd2).mono ?_
               rintro e u ⟨U,N,x0,x1,x2,rfl,hp,hf,hn,hb⟩
               have DP:=hid hp
               have FF:=hid (rr_firm ST.out HX.out VD.out HY.out.size hf)
               have HN:=hid hn
               have QN:=hid (note_ones hn)
               have HU:=hid (Below.refl u.heap.size u)
               (try have KB:=hid MB.out.lt)
               (try have KC:=hid NB.out.lt)
               (try replace MB:=hid (MB.out.keep hb))
               (try replace NB:=hid (NB.out.keep hb))
               replace HY:=hid (HY.out.trans (hb.mono HY.out.size))
               (try go_wp2_with fail)
               refine hK.out _ _ ⟨keepsT hb hS.1,keepsT hb hS.2⟩ (fun hS2=>?_)
               clear hK K1 hp hf hn hb hS
               have hS:=hS2
               clear hS2
               try simp only [Act.put,Take.nm]
               refine Take.tk 11 26 hS ?_
               refine Take.tk 12 38 hS ?_
               refine Take.tk 13 39 hS ?_
               try simp only [Act.put,Take.nm])
        all_goals
          refine wpAnyH_ready (rs:=[16]) (by kernel_rfl) (by simp) ?_
          refine AllReadyH.cons (o:=_) (by rfl) (fun K1 hK=>?_) AllReadyH.nil
          rw [if_pos (by rfl)]
          have hsb:=SB.out
          have hsc:=SC.out
          refine wp_store_m MB.out DP.out _ _ rfl rfl rfl ?_
          intro w4 hb4 ht4
          refine hK.out _ _ ⟨(World.cell?_of_block (ht4.block bp (by omega))).trans hS.1,(World.cell?_of_block (ht4.block bp (by omega))).trans hS.2⟩ (fun hS2=>?_)
          clear hK K1
          try simp only [Act.put,Take.nm]
          refine wpAnyH_ready (rs:=[17]) (by kernel_rfl) (by simp) ?_
          refine AllReadyH.cons (o:=_) (by rfl) (fun K1 hK=>?_) AllReadyH.nil
          rw [if_pos (by rfl)]
          refine wp_store_b (box3_turned NB.out ht4 (fun e=>NE.out e.symm)) _ _ rfl rfl rfl (fun z hz=>QN.out _ hz) ?_
          intro w5 hb5 ht5
          refine hK.out _ _ ⟨(World.cell?_of_block (ht5.block bp (by omega))).trans hS2.1,(World.cell?_of_block (ht5.block bp (by omega))).trans hS2.2⟩ (fun hS3=>?_)
          clear hK K1
          simp only [Act.put]
          refine wpAnyH_done (by kernel_rfl) ?_ _
          refine NoPanic.normal ?_
          go_wp2_with fail
          go_meet
          refine hid (rr_mid HY.out HU.out MB.out NB.out ⟨no8_i _,no8_i _,no8_s _ _ _⟩ NE.out ⟨hsb,?_⟩ ⟨hsc,?_⟩ HN.out FF.out hb4 ht4 hb5 ht5)
          · first
              | exact .inl KB.out
              | exact .inr KB.out
          · first
              | exact .inl KC.out
              | exact .inr KC.out
      case rest =>
      rename_i HKK
      refine HKK _ _ ?_
      clear HKK
      obtain ⟨B,C,U,N,x0,x1,x2,rfl,rfl,hB,hC,hN,hF2,hlow,hBy⟩:=hcut.out
      have S6:=hid (ST.out.keep hlow)
      have HE1:=hid (fun hc=>restm_bad HS.out HP.out hc)
      have HE2:=hid (fun hc=>restm_more HS.out HP.out hc)
      have hown1 : ∀ j, (Value.slice A F.length ca).ownBlock = some j → j < wr.heap.size := fun j e => by
        obtain ⟨q,h1,-⟩:=ST.out.own
        exact (h1.lt j e).2
      have HO:=hid hown1
      have HG:=hid (show wc.cell? ⟨bp,off+i*2+1,none⟩=some xv from keepsT hlow HC.out.2)
      obtain ⟨Ax,cx,rfl,-,-⟩:=VD.out.form
      have hlow2:=hlow.size
      clear hcut HS HC HT hlow CD VD HX hown1
      dsimp only at HE1 HE2
      generalize decM (t:Int) d=DM at *
      obtain ⟨⟨k3,o3,u3x,n3⟩,⟨cd2,sb2,dd2⟩⟩:=DM
      dsimp only at *
      have HB3:=hid hB
      have HC3:=hid hC
      have HN3:=hid hN
      have HF3:=hid hF2
      clear hB hC hN hF2
      obtain ⟨q1,q2,vd,e,hd⟩:=HN3.out
      dsimp only at q1 q2 e hd
      injection e with e
      obtain ⟨rfl,rfl,rfl⟩:x0=.int .i64 cd2∧x1=.int .i64 sb2∧x2=vd:=by simpa using e
      obtain ⟨Ad,cdd,rfl,-,-⟩:=hd.form
      clear q1 q2 hd e
      by_cases hcd:cd2=0
      · have y1 : (cd2 != 0) = false := by simp [hcd]
        have E:=hid (HE2.out hcd)
        obtain ⟨d0,d1,d2⟩:=HC3.out.cells
        clear HE1 HE2 hcd
        go_upto_region 9 with fail
        clear d0 d1 d2
        have hPb:=HB.out.1
        have w19:IntKind.i64.wrap ((k:Int)+19)=(k:Int)+19:=IntWalk.i64_in _ (by omega)
        have wd:IntKind.i64.wrap ((k:Int)+19+(d.length:Int))=(k:Int)+19+(d.length:Int):=IntWalk.i64_in _ (by omega)
        obtain ⟨i0,E0⟩:=elemMs
        obtain ⟨q,hrow,hrows⟩:=S6.out.own
        have hb0:Below wc.heap.size wc wc.drew:=(Below.refl _ wc).drew
        have hBd:=hid (HB3.out.keep hb0)
        refine wp_region_noPanic ?_
        refine wp_region_held_drew (S:=fun w'=>w'.cell? ⟨bp,off+i*2+1,none⟩=some (.slice Ax d.length cx)∧BoxM w' B k3 (ocells o3) U N) (by kernel_rfl) ⟨keepsT hb0 HG.out,hBd.out⟩ (fun hS=>?_)
        refine Take.tk 0 46 hS ?_
        refine tk_m 1 47 _ hS (fun _ h=>h.2) ?_ HB3.out.parts rfl rfl rfl rfl (by kernel_rfl) rfl (fun _ _ _ h=>h)
        try simp only [Act.put,Take.nm]
        refine Take.tk 4 50 hS ?_
        refine Take.tk 5 51 hS ?_
        refine Take.tk 6 52 hS ?_
        try simp only [Act.put,Take.nm]
        refine Take.tk 7 53 hS ?_
        refine Take.tk 8 54 hS ?_
        refine Take.tk 9 55 hS ?_
        try simp only [Act.put,Take.nm]
        refine Take.tk 10 56 hS ?_
        refine Take.tk 11 57 hS ?_
        refine Take.tk 12 58 hS ?_
        try simp only [Act.put,Take.nm]
        refine wpAnyH_ready (rs:=[2]) (by kernel_rfl) (by simp) ?_
        refine AllReadyH.cons (o:=_) (by rfl) (fun K1 hK=>?_) AllReadyH.nil
        rw [if_pos (by rfl)]
        refine wp_build_one 48 rfl HB3.out.parts _ rfl rfl (fun hRow=>?_)
        have hX:Below wc.heap.size wc (wc.drew.alloc (.cells (mcells k3 (ocells o3) U N).toArray 36)):=hb0.alloc (Nat.le_refl _) _
        have HXX:=hid hX
        have BX:=hid (HB3.out.keep hX)
        refine hK.out _ _ ⟨keepsT hX HG.out,BX.out⟩ (fun hS2=>?_)
        clear hK K1 hX
        simp only [Act.put,Take.nm]
        refine wpAnyH_ready (rs:=[3]) (by kernel_rfl) (by simp) ?_
        refine AllReadyH.cons (o:=_) (by rfl) (fun K1 hK=>?_) AllReadyH.nil
        rw [if_pos (by rfl)]
        refine wp_append_row (.tmp 46) (.tmp 48) rfl E0 (w.heap.size+1) _ F.length q.flatten rfl (own_keep hrow HXX.out) _ 1 (mcells k3 (ocells o3) U N) rfl hRow (HB3.out.parts.cells _) (by unfold maxLen;omega) (by omega) (Nat.le_trans S6.out.box.lt HXX.out.size) (F.length+1) rfl ?_
        intro A' c' W' hown hg hat hb
        have ST2:=hid (rr_more S6.out HXX.out hrows HF3.out hown hg hat hb)
        have hc3:W'.cell? ⟨bp,off+i*2+1,none⟩=some (.slice Ax d.length cx):=(ST2.out.firm.now.1.cell hlt2).trans ((S6.out.firm.now.1.cell hlt2).symm.trans HG.out)
        have hBW:=hid (BX.out.below (hg.block B BX.out.lt (fun e=>by have:=HO.out B e.symm;omega)) hg.size)
        refine hK.out _ _ ⟨hc3,hBW.out⟩ (fun hS3=>?_)
        clear hK K1 hrow hrows hown hg hat hb hS hS2
        try simp only [Act.put,Take.nm]
        refine Take.tk 13 5 hS3 ?_
        refine Take.tk 14 6 hS3 ?_
        simp only [Act.put]
        refine wpAnyH_done (by kernel_rfl) ?_ _
        refine NoPanic.normal ?_
        go_wp2
        go_roundw
        case rel=>exact ⟨i+1,k+19+d.length,_,A',c',by omega,by rw [List.length_append,List.length_singleton];omega,by omega,by go_num,by go_num,by rw [List.length_append,List.length_singleton],E,ST2⟩
        case measure=>simp [intOf];omega
      · have y1 : (cd2 != 0) = true := by simp [hcd]
        have E:=hid (HE1.out hcd)
        obtain rfl:=HR.out.trans E.out
        obtain ⟨c0,c1,c2⟩:=S6.out.box.cells
        have ff:=S6.out.box.free
        obtain ⟨d0,d1,d2⟩:=HC3.out.cells
        clear HE1 HE2 hcd
        go_upto_region 8 with fail
        go_region
        go_wp2
        (try simp only [Exit.inBlock,Exit.then])
        have r0:=(S6.out.box.set0 (.int .i64 cd2)).cells.1
        have r1:=((S6.out.box.set0 (.int .i64 cd2)).set1 (.int .i64 sb2)).cells.2.1
        have r2:=(S6.out.box.laid (.int .i64 cd2) (.int .i64 sb2) (.slice Ad dd2.length cdd)).cells.2.2
        unfold three at r2
        refine bodyPost_ret (v:=.tuple #[.slice A F.length ca,.int .i64 (k:Nat),.agg #[.int .i64 cd2,.int .i64 sb2,.slice Ad dd2.length cdd]]) (by simp [results,Tryz.results23,go_sem,r0,r1,r2]) rfl ?_
        exact (rr_end S6.out HN3.out).drew
end Msg
namespace Msg
open Go.RowKit Mem Segm Oct Att PR Opn Upd Ntc Frm
open Go.Lib (hid)
theorem range_keep {W W':World} {b o:Nat} {cs:List Value} (h:W.rangeAt b o cs) (hb:Below W.heap.size W W'):W'.rangeAt b o cs:=fun j v hv=>keepsT hb (h j v hv)
section
variable {ops:Array Oper} {a:Act} {w:World} {Q:Exit→Act→World→Prop} {b o:Nat} {cs:List Value}
theorem tk_r {md:Region.Mode} {S:World→Prop} (i d:Nat) (x:Operand) {oi:Oper} {fuel:Nat} {listed:Array Bool} (hS:S w) (hB:∀ w,S w→w.rangeAt b o cs) (h:wpAnyH Tryz.prog md ops Q S fuel (listed.setIfInBounds i true) (a.put (some d) (.agg cs.toArray)) w)
  (hl:cs.length=19) (ho:oi.op=.load 36 x) (hx:a.eval x=.pointer (some ⟨b,o,none⟩)) (hi:ops[i]?=some oi) (hd:oi.dst=some d) (hc:Take.nextOk md ops listed i=true) (hw:Region.wanted oi (yielded ops a.tmps)=true)
  (hQ:∀ c a w,Q (.panic c) (a.put (some d) (.agg cs.toArray)) w→Q (.panic c) a w):wpAnyH Tryz.prog md ops Q S (fuel+1) listed a w:=by
 unfold Take.nextOk at hc
 simp only [Bool.and_eq_true] at hc
 rw [← hd] at h
 exact wpAnyH_take hi hc.1 hc.2.1 hc.2.2 (fun c a w=>by rw [hd];exact hQ c a w) (yieldsIf_load_mid hw _ x ho b o hx _ _ hB Tryz.underlying36 rfl (by rw [hl];kernel_rfl)) hS h
end
def ReadL (F:List Ms) (k:Nat) (n:No) (w:World) (e:Ending) (w':World):Prop :=
 ∃ A c A2 k2 c2,e=.returned (.tuple #[.slice A F.length c,.int .i64 (k:Nat),.agg #[.int .i64 n.code,.int .i64 n.sub,.slice A2 k2 c2]])∧Msgl w' (.slice A F.length c) F∧Note w' (.agg #[.int .i64 n.code,.int .i64 n.sub,.slice A2 k2 c2]) n∧Below w.heap.size w w'
theorem read_lit {F:List Ms} {k:Nat} {n:No} {w w':World} {e:Ending} (h:ReadF (F,k,n) w e w'):ReadL F k n w e w':=by
 obtain ⟨A,c,x0,x1,x2,rfl,h1,h2,h3⟩:=h
 have h4:=h2
 obtain ⟨-,-,vd,e,hd⟩:=h4
 obtain ⟨A2,c2,rfl,-,-⟩:=hd.form
 injection e with e
 obtain ⟨rfl,rfl,rfl⟩:x0=.int .i64 n.code∧x1=.int .i64 n.sub∧x2=.slice A2 n.data.length c2:=by simpa using e
 exact ⟨A,c,A2,_,c2,rfl,h1,h2,h3⟩
structure RwSt (w:World) (F:List Ms) (A1 A2:Option Addr) (c1 c2:Nat) (W:World):Prop where
 low:Below w.heap.size w W
 m1:Msgl W (.slice A1 F.length c1) F
 m2:Msgl W (.slice A2 F.length c2) F
theorem RwSt.keep {w W W':World} {F:List Ms} {A1 A2:Option Addr} {c1 c2:Nat} (h:RwSt w F A1 A2 c1 c2 W) (hb:Below W.heap.size W W'):RwSt w F A1 A2 c1 c2 W':=⟨h.low.trans (hb.mono h.low.size),h.m1.keep hb,h.m2.keep hb⟩
theorem reads_of (v:Value) (b0:List Nat) (w:World) (hv:U8s w v b0)
  (hP:∀ v b W,U8s W v b→b.length≤1500→Below w.heap.size w W→Calls Tryz.prog 18 #[v] W (ReadF (readM b) W))
  (hR:∀ v b W,U8s W v b→b.length≤1500→Calls Tryz.prog 23 #[v] W (ReadF (readM b) W))
  (hL:∀ W,Below w.heap.size w W→Calls Tryz.prog 15 #[] W (Tells (.bool true) W)):Calls Tryz.prog 5 #[v] w (Tells (.bool true) w):=by
 have hls:Small (b0.take 1500):=hv.2.take 1500
 have hl2:(b0.take 1500).length≤1500:=by rw [List.length_take];omega
 have C1:=hid (show Calls Tryz.prog 19 #[v,.int .i64 1500] w (Gives8 (b0.take 1500) w) from bytes_any v b0 1500 w hv (by decide))
 clear hv
 generalize b0.take 1500=L0 at hls hl2 C1
 have C2:=hid (fun (v:Value) (W:World) (h:U8s W v L0)=>show Calls Tryz.prog 19 #[v,.int .i64 1500] W (Gives8 L0 W) from by
  have h3:=bytes_any v L0 1500 W h (by decide)
  rw [List.take_of_length_le hl2] at h3
  exact h3)
 have HLS:=hid hls
 obtain ⟨RM,hRM⟩:∃ RM,readM L0=RM:=⟨_,rfl⟩
 obtain ⟨F,k,n⟩:=RM
 have CP:=hid (fun v W (h:U8s W v L0) (hb:Below w.heap.size w W)=>(hP v L0 W h hl2 hb).mono fun _ _ h2=>read_lit (hRM ▸ h2))
 have CR:=hid (fun v W (h:U8s W v L0)=>(hR v L0 W h hl2).mono fun _ _ h2=>read_lit (hRM ▸ h2))
 have CL:=hid hL
 clear hP hR hL hls hl2 hRM
 obtain ⟨cd,sb,dd⟩:=n
 unfold ReadL at CP CR
 dsimp only at CP CR
 have CS:=hid (fun (m:Ms) va vb W (h1:Msgs W va m) (h2:Msgs W vb m)=>show Calls Tryz.prog 11 #[va,vb] W (Tells (.bool true) W) from by
  have h3:=rsame13 va vb m m W h1 h2
  rw [show sameM m m=true from sameM_iff.2 rfl] at h3
  exact h3)
 have CT:=hid (fun va vb W (h1:Note W va ⟨cd,sb,dd⟩) (h2:Note W vb ⟨cd,sb,dd⟩)=>show Calls Tryz.prog 22 #[va,vb] W (Tells (.bool true) W) from by
  have h3:=told_any va vb _ _ W h1 h2
  rw [sameN_iff.2 rfl] at h3
  exact h3)
 go_enter Tryz.func5,Tryz.ntmps5
 go_wp2_with (first
  | (have h:=O1.out;go_at_call 19;refine (C2.out _ _ (U8s.of_own h HLS.out)).mono ?_;rintro e w2 ⟨A2,c2,rfl,ho,hb⟩;have O2:=hid (U8s.of_own ho HLS.out);have B2:=hid (B1.out.trans (hb.mono B1.out.size));have K2:=hid ((U8s.of_own h HLS.out).keep hb);clear ho hb h O1)
  | (go_at_call 19;refine C1.out.mono ?_;rintro e w1 ⟨A1,c1,rfl,ho,hb⟩;have O1:=hid ho;have B1:=hid hb;clear ho hb)
  | (go_at_call 18;have h:=O2.out;refine (CP.out _ _ h B2.out).mono ?_;rintro e w3 ⟨A3,c3,A4,k4,c4,rfl,hm,hN,hb⟩;have hb2:=box_low w3 (.int .i64 cd) (.int .i64 sb) (.slice A4 k4 c4);have B3:=hid (B2.out.trans (hb.mono B2.out.size));have B4:=hid (B3.out.trans (hb2.mono B3.out.size));have K4:=hid ((K2.out.keep hb).keep hb2);have M4:=hid (hm.keep hb2);have N4:=hid (hN.keep hb2);have X4:=hid (Box3.new w3 34 (.int .i64 cd) (.int .i64 sb) (.slice A4 k4 c4));clear h O2 hm hN hb hb2 K2 B3;obtain ⟨p0,p1,p2⟩:=X4.out.cells)
  | (go_at_call 23;have h:=K4.out;refine (CR.out _ _ h).mono ?_;rintro e w5 ⟨A5,c5,A6,k6,c6,rfl,hm,hN,hb⟩;have hb2:=box_low w5 (.int .i64 cd) (.int .i64 sb) (.slice A6 k6 c6);have B5:=hid (B4.out.trans (hb.mono B4.out.size));have ST:=hid (RwSt.mk (B5.out.trans (hb2.mono B5.out.size)) ((M4.out.keep hb).keep hb2) (hm.keep hb2));have N5:=hid (And.intro ((N4.out.keep hb).keep hb2) (hN.keep hb2));have X5:=hid (And.intro ((X4.out.keep hb).keep hb2) (Box3.new w5 34 (.int .i64 cd) (.int .i64 sb) (.slice A6 k6 c6)));clear h hm hN hb hb2 K4 M4 N4 X4 B4 B5 p0 p1 p2;obtain ⟨⟨p0,p1,p2⟩,⟨g0,g1,g2⟩⟩:=And.intro X5.out.1.cells X5.out.2.cells)
  | (go_at_call 22;refine (CT.out _ _ _ N5.out.1 N5.out.2).mono ?_;rintro e w6 ⟨rfl,hb⟩;replace ST:=hid (ST.out.keep hb);clear hb N5 X5 p0 p1 p2 g0 g1 g2))
 clear C1 C2 HLS CP CR CT B1 B2
 go_loopw [9] (fun v9 wx=>∃ i:Nat,i≤F.length∧v9=.int .i64 i∧Hid (RwSt w F A3 A5 c3 c5 wx)) (fun v9 _=>F.length - (intOf v9).toNat)
 case atStart=>exact ⟨0,Nat.zero_le _,rfl,ST⟩
 case round =>
  obtain ⟨i,hi,rfl,ST⟩:=hrel
  by_cases hlt:F.length≤i
  ·have z1:¬ ((i:Int)<(F.length:Int)):=by omega
   clear hlt CS
   go_wp2_with (go_at_call 15;refine (CL.out _ ST.out.low).mono ?_;rintro e w7 ⟨rfl,hb⟩;have B7:=hid (ST.out.low.trans (hb.mono ST.out.low.size));clear hb)
   go_ret
   exact ⟨rfl,B7.out⟩
  ·have hlt2:i<F.length:=by omega
   have z1:(i:Int)<(F.length:Int):=by omega
   have hFi:=List.getElem?_eq_getElem hlt2
   generalize F[i]=m at hFi
   obtain ⟨b1,o1,U1,N1,rfl,hb1,hr1,hp1,hm1⟩:=ST.out.m1.at_ hFi
   obtain ⟨b2,o2,U2,N2,rfl,hb2,hr2,hp2,hm2⟩:=ST.out.m2.at_ hFi
   have HR:=hid (And.intro hr1 hr2)
   have HM:=hid (And.intro hm1 hm2)
   have HP:=hid (And.intro hp1 hp2)
   have hFl:F.length≤9223372036854775807:=by
    obtain ⟨_,_,_,h1,h2⟩:=ST.out.m1.form
    omega
   clear hr1 hr2 hm1 hm2 hp1 hp2 hlt hFi
   go_upto_region 9 with fail
   have hd:Below wr.heap.size wr wr.drew:=(Below.refl _ wr).drew
   refine wp_region_noPanic ?_
   refine wp_region_held_drew (S:=fun w'=>w'.rangeAt b1 (o1+i*19) (mcells m.kind (ocells m.op) U1 N1)∧w'.rangeAt b2 (o2+i*19) (mcells m.kind (ocells m.op) U2 N2)) (by kernel_rfl) ⟨range_keep HR.out.1 hd,range_keep HR.out.2 hd⟩ (fun hS=>?_)
   refine Take.tk 0 47 hS ?_
   refine Take.tk 1 48 hS ?_
   refine Take.tk 2 49 hS ?_
   try simp only [Act.put,Take.nm]
   refine tk_r 3 50 _ hS (fun _ h=>h.1) ?_ (mcells_len HP.out.1.lo HP.out.1.lu HP.out.1.ln) rfl rfl rfl rfl (by kernel_rfl) rfl (fun _ _ _ h=>h)
   refine Take.tk 4 51 hS ?_
   refine Take.tk 5 52 hS ?_
   try simp only [Act.put,Take.nm]
   refine Take.tk 6 53 hS ?_
   refine tk_r 7 54 _ hS (fun _ h=>h.2) ?_ (mcells_len HP.out.2.lo HP.out.2.lu HP.out.2.ln) rfl rfl rfl rfl (by kernel_rfl) rfl (fun _ _ _ h=>h)
   try simp only [Act.put,Take.nm]
   refine wpAnyH_ready (rs:=[8]) (by kernel_rfl) (by simp) ?_
   refine AllReadyH.cons (o:=_) (by rfl) (fun K1 hK=>?_) AllReadyH.nil
   rw [if_pos (by rfl)]
   go_simp
   go_at_call 11
   refine (CS.out m _ _ _ (HM.out.1.keep hd) (HM.out.2.keep hd)).mono ?_
   rintro e w6 ⟨rfl,hb⟩
   replace ST:=hid ((ST.out.keep hd).keep hb)
   (try go_wp2_with fail)
   refine hK.out _ _ ⟨range_keep hS.1 hb,range_keep hS.2 hb⟩ (fun hS2=>?_)
   clear hK K1 hS hb hd HR HM
   try simp only [Act.put,Take.nm]
   refine Take.tk 9 56 hS2 ?_
   try simp only [Act.put,Take.nm]
   refine wpAnyH_done (by kernel_rfl) ?_ _
   refine NoPanic.normal ?_
   go_wp2
   go_roundw
   case rel=>exact ⟨i+1,by omega,by go_num,ST⟩
   case measure=>simp [intOf];omega
end Msg
namespace Msg
open Go.RowKit Mem Segm Oct Att Seg PR Opn Upd Ntc Frm
open Go.Lib (hid)
theorem decG_lift {k:Int} {b:List Nat} {v:Value} {w wf w':World} {e:Ending} (hb:Below w.heap.size w wf) (h:DecG k b v wf e w'):DecG k b v w e w':=by
 obtain ⟨U,N,x0,x1,x2,h1,h2,h3,h4,h5⟩:=h
 exact ⟨U,N,x0,x1,x2,h1,h2,fun S s1 s2=>h3 S (fun j hj=>s1 j (Nat.le_trans hb.size hj)) (fun j h0 hj hl=>by
  rcases Nat.lt_or_ge j w.heap.size with h | h
  ·exact s2 j h0 hj h
  ·exact s1 j h),h4,hb.trans (h5.mono hb.size)⟩
theorem raw3 {b:List Nat} (hl:b.length≤4077) (hs:Small b):rawM 3 b=(⟨3,zeroO,zeroU,outN b⟩,if okN b then noN else ⟨1,2,[]⟩):=by
 have e0:rawM 3 b=(if ntcB b then (⟨3,zeroO,zeroU,ntcD b⟩,noN) else (⟨3,zeroO,zeroU,noN⟩,⟨1,2,[]⟩)):=rfl
 rw [e0]
 unfold outN
 match b,hl,hs with
 | [],_,_=>rw [Ntc.ok_nil];rfl
 | [a],_,_=>rw [Ntc.ok_one];rfl
 | a :: c :: d,hl,hs =>
  have ha:a<256:=hs a List.mem_cons_self
  have hc:c<256:=hs c (List.mem_cons_of_mem _ List.mem_cons_self)
  simp only [List.length_cons] at hl
  rw [(Ntc.read_two a c d).1,Ntc.ok_two]
  by_cases h:a=0
  ·subst h
   rfl
  ·have h1:ntcB (a :: c :: d)=true:=decide_eq_true ⟨by simp,by simp [h],by simp only [List.length_cons];omega⟩
   have h2:goodN ⟨(a:Nat),(c:Nat),d⟩=true:=decide_eq_true ⟨by show (1:Int)≤(a:Int);omega,by show (a:Int)≤255;omega,by show (0:Int)≤(c:Int);omega,by show (c:Int)≤255;omega,by show d.length≤4075;omega⟩
   rw [h1,h2]
   rfl
theorem fault13 (s:Int) (w:World):Calls Tryz.prog 49 #[.int .i64 s] w (fun e w'=>e=.returned (.agg #[.int .i64 1,.int .i64 s,.slice none 0 0])∧Below w.heap.size w w'):=by
 have HB:=hid (box_low w (.int .i64 1) (.int .i64 s) (.slice none 0 0))
 go_enter Tryz.func49,Tryz.ntmps49
 go_wp2
 (try simp only [Exit.inBlock,Exit.then])
 refine bodyPost_ret (v:=.agg #[.int .i64 1,.int .i64 s,.slice none 0 0]) (by simp [results,Tryz.results49,go_sem]) rfl ?_
 exact ⟨rfl,HB.out⟩
def Met2 (k:Int) (b:List Nat) (w:World) (C D:Nat) (g:Bool) (W:World):Prop :=
 ∃ U N y0 y1 y2,RdSt w C D (rawM k b).1.kind (ocells (rawM k b).1.op) U N y0 y1 y2 W ∧
  (∀ S:Nat→Prop,(∀ j,w.heap.size+2≤j→S j)→Firm W S (fun W=>Msgs W (.agg (mcells (rawM k b).1.kind (ocells (rawM k b).1.op) U N).toArray) (rawM k b).1)) ∧
  ((g=true∧Note W (.agg #[y0,y1,y2]) (rawM k b).2)∨(g=false∧(rawM k b).2=⟨1,2,[]⟩))
theorem pdec13 (k:Int) (v:Value) (b:List Nat) (w:World) (hv:U8s w v b) (hl:b.length≤4077)
  (hO:k=1→∀ W,U8s W v b→Calls Tryz.prog 46 #[v] W (fun e w'=>∃ vn,e=.returned (.tuple #[.agg (ocells (outO (decO b)).1).toArray,vn])∧(outO (decO b)).1.ok∧Note w' vn (outO (decO b)).2∧Below W.heap.size W w'))
  (hU:k=2→∀ W,U8s W v b→Below w.heap.size w W→Calls Tryz.prog 47 #[v] W (DecU b W)):Calls Tryz.prog 20 #[.agg #[.int .i64 k,v]] w (DecG k b v w):=by
 obtain ⟨A0,n0,rfl,hc,hc2⟩:=hv.form
 have hR3:=fun (_:k=3)=>raw3 hl hv.2
 have LW:=hid ((Below.refl w.heap.size w).alloc (Nat.le_refl _) (.cells #[.int .i64 k,.slice A0 b.length n0] 53))
 have q0:(w.alloc (.cells #[.int .i64 k,.slice A0 b.length n0] 53)).cell? ⟨w.heap.size,0,none⟩=some (.int .i64 k):=by simp
 have q1:(w.alloc (.cells #[.int .i64 k,.slice A0 b.length n0] 53)).cell? ⟨w.heap.size,1,none⟩=some (.slice A0 b.length n0):=by simp
 have CN:=hid (fun W (h:U8s W (.slice A0 b.length n0) b)=>Ntc.decode_from _ b W h (by omega))
 have HU:=hid hU
 have HV:=hid (hv.keep LW.out)
 obtain ⟨wf,hwf⟩:∃ wf,w.alloc (.cells #[.int .i64 k,.slice A0 b.length n0] 53)=wf:=⟨_,rfl⟩
 rw [hwf] at LW q0 q1 HV
 have F0:=hid (fun W (h:Below wf.heap.size wf W)=>And.intro (keepsT h q0) (keepsT h q1))
 have HS:=hid (rd_start wf)
 clear hv q0 q1 hU
 unfold z19 z3 at HS
 obtain ⟨w1,hw1⟩:∃ w1,(wf.alloc (.cells #[.int .i64 0,.int .u32 0,.int .i64 0,.int .u32 0,.bool false,.slice none 0 0,.int .i64 0,.int .i64 0,.slice none 0 0,.int .u32 0,.int .u32 0,.int .u32 0,.int .u32 0,.int .u32 0,.slice none 0 0,.slice none 0 0,.int .i64 0,.int .i64 0,.slice none 0 0] 36)).alloc (.cells #[.int .i64 0,.int .i64 0,.slice none 0 0] 34)=w1:=⟨_,rfl⟩
 rw [hw1] at HS
 obtain ⟨c0,c1⟩:=F0.out w1 HS.out.2.2.1
 have HM:=hid (show BoxM (w1.alloc (.cells z19 36)) w1.heap.size 0 (ocells zeroO) zU zN from by have h1:=BoxM.new w1 36 0 (parts_z zeroO);rwa [← z19_is] at h1)
 have HL:=hid (box_msg w1 z19)
 unfold z19 at HM HL
 have P0:=hid (parts_z zeroO)
 have T1:=hid True.intro
 go_enter Tryz.func20,Tryz.ntmps20
 go_upto_region 3 with (first
  | (have tok:=T1.out;refine store_m HM.out (k2:=k) P0.out _ _ rfl rfl (by rfl) (by kernel_rfl) ?_;intro w3 hb ht;have HT:=hid ht;have B3:=hid hb;clear c0 c1;have BW:=hid (HS.out.2.2.1.trans ((ht.low (Nat.le_refl _) HL.out).mono HS.out.2.2.1.size));obtain ⟨c0,c1⟩:=F0.out w3 BW.out;have T2:=hid tok;have BN:=hid (Box3.new w3 34 (.int .i64 0) (.int .i64 0) (.slice none 0 0));have BL:=hid (box_low w3 (.int .i64 0) (.int .i64 0) (.slice none 0 0));clear T1 tok hb ht)
  | (have tok:=T2.out;refine store_b BN.out _ _ rfl rfl (by rfl) (by decide) (by kernel_rfl) ?_;intro w4 hb ht;have B4:=hid hb;have HT2:=hid ht;clear T2 tok hb ht c0 c1))
 have hsz3:w3.heap.size=w1.heap.size+1:=by rw [HT.out.size];simp
 have S1:=HS.out.2.2.2
 have BX:=hid (BW.out.trans ((HT2.out.low (Nat.le_refl _) BL.out).mono BW.out.size))
 have ST:=hid (show RdSt wf w1.heap.size w3.heap.size k (ocells zeroO) zU zN (.int .i64 0) (.int .i64 0) (.slice none 0 0) w4 from
  ⟨(((HS.out.1.keep HL.out).turned HT.out (by omega)).keep BL.out).turned HT2.out (by omega),box3_turned ((box3_turned (HS.out.2.1.keep HL.out) HT.out (by omega)).keep BL.out) HT2.out (by omega),(B3.out.keep BL.out).turned HT2.out (by omega),B4.out,BX.out,by omega,by omega,by omega⟩)
 obtain ⟨c0,c1⟩:=F0.out w4 BX.out
 clear HS HM HL HT B3 BW BN BL B4 HT2 BX hwf hw1 hsz3 S1
 generalize w3.heap.size=D at ST ⊢
 generalize w1.heap.size=C at ST ⊢
 go_upto_block 0 with fail
 go_cut [6] (fun s6 wx=>∃ g:Bool,s6=.bool g∧Hid (Met2 k b wf C D g wx))
 case first =>
  by_cases h1:k=1
  ·subst h1
   have HR:=hid (show rawM 1 b=(⟨1,(outO (decO b)).1,zeroU,noN⟩,(outO (decO b)).2) from rfl)
   have CO:=hid (hO rfl)
   generalize (outO (decO b)).1=o1 at HR CO
   generalize (outO (decO b)).2=n1 at HR CO
   have T1:=hid True.intro
   clear hO HU hR3
   go_wp2_with (first
    | (go_at_call 46;refine (CO.out _ (HV.out.keep ST.out.low)).mono ?_;rintro e x ⟨vn,rfl,hok,hn,hb⟩;obtain ⟨q1,q2,vd,rfl,hd⟩:=hn;obtain ⟨Ad,cd,rfl,-,-⟩:=hd.form;have HQ:=hid (And.intro hok (And.intro q1 q2));have HD:=hid hd;replace ST:=hid (ST.out.keep hb);clear hok q1 q2 hd hb)
    | (have tok:=T1.out;refine store_o ST.out.m (parts_z o1) _ _ rfl rfl rfl (by kernel_rfl) ?_;intro x2 hb ht;replace HD:=hid (u8_apart HD.out ST.out.m.no8 ht.block (Nat.le_of_eq ht.size.symm));replace ST:=hid (ST.out.setM hb ht);have T2:=hid tok;clear T1 tok hb ht)
    | (have tok:=T2.out;refine store_b ST.out.n _ _ rfl rfl rfl (by simp [Value.oneCell']) (by kernel_rfl) ?_;intro x3 hb ht;replace HD:=hid (u8_apart HD.out (ST.out.n.no8 (no8_i _) (no8_i _) (no8_s _ _ _)) ht.block (Nat.le_of_eq ht.size.symm));replace ST:=hid (ST.out.setN hb ht);clear T2 tok hb ht))
   go_meet
   refine ⟨_,rfl,hid ?_⟩
   unfold Met2
   rw [HR.out]
   exact ⟨zU,zN,_,_,_,ST.out,fun S _ W' _ _=>msgs_plain W' _ _ HQ.out.1,.inl ⟨rfl,HQ.out.2.1,HQ.out.2.2,_,rfl,HD.out⟩⟩
  by_cases h2:k=2
  ·subst h2
   have HR:=hid (show rawM 2 b=(⟨2,zeroO,(outU (decU b)).1,noN⟩,(outU (decU b)).2) from rfl)
   have CU:=hid (HU.out rfl)
   unfold DecU at CU
   generalize (outU (decU b)).1=u1 at HR CU
   generalize (outU (decU b)).2=n1 at HR CU
   have T1:=hid True.intro
   clear hO HU hR3
   go_wp2_with (first
    | (go_at_call 47;refine (CU.out _ (HV.out.keep ST.out.low) (LW.out.trans (ST.out.low.mono LW.out.size))).mono ?_;rintro e x ⟨vu,vn,rfl,hu,hn,hb⟩;obtain ⟨U2,rfl⟩:=updF_agg hu;obtain ⟨q1,q2,vd,rfl,hd⟩:=hn;obtain ⟨Ad,cd,rfl,-,-⟩:=hd.form;have HQ:=hid (And.intro q1 q2);have HD:=hid hd;have HF:=hid hu;have HP:=hid (parts_u (parts_z zeroO) hu);have HC:=hid (And.intro ST.out.m.lt ST.out.n.lt);have HW:=hid ST.out.low.size;replace ST:=hid (ST.out.keep hb);clear hu q1 q2 hd hb)
    | (have tok:=T1.out;refine store_u ST.out.m HP.out _ _ rfl rfl rfl (by kernel_rfl) ?_;intro x2 hb ht;replace HD:=hid (u8_apart HD.out ST.out.m.no8 ht.block (Nat.le_of_eq ht.size.symm));replace HF:=hid (HF.out.off (fun j hj=>ht.block j (by have:=HC.out.1;omega)) (Nat.le_of_eq ht.size.symm));replace ST:=hid (ST.out.setM hb ht);have T2:=hid tok;clear T1 tok hb ht)
    | (have tok:=T2.out;refine store_b ST.out.n _ _ rfl rfl rfl (by simp [Value.oneCell']) (by kernel_rfl) ?_;intro x3 hb ht;replace HD:=hid (u8_apart HD.out (ST.out.n.no8 (no8_i _) (no8_i _) (no8_s _ _ _)) ht.block (Nat.le_of_eq ht.size.symm));replace HF:=hid (HF.out.off (fun j hj=>ht.block j (by have:=HC.out.2;omega)) (Nat.le_of_eq ht.size.symm));replace ST:=hid (ST.out.setN hb ht);clear T2 tok hb ht))
   go_meet
   refine ⟨_,rfl,hid ?_⟩
   unfold Met2
   rw [HR.out]
   have hC:=ST.out.hC
   have hC2:=HC.out
   exact ⟨U2,zN,_,_,_,ST.out,fun S hS W' hk hs=>⟨U2,zN,rfl,HP.out,zeroO_ok,(updF_part HF.out (fun j h3 h4=>hk j h3 (hS j (by omega))) hs).upds,note_z W'⟩,.inl ⟨rfl,HQ.out.1,HQ.out.2,_,rfl,HD.out⟩⟩
  by_cases h3:k=3
  ·subst h3
   have HR:=hid (hR3 rfl)
   clear hO HU hR3 h1 h2
   unfold DecF2 at CN
   generalize outN b=n1 at HR CN
   generalize okN b=g at HR CN
   have T1:=hid True.intro
   go_wp2_with (first
    | (go_at_call 48;refine (CN.out _ (HV.out.keep ST.out.low)).mono ?_;rintro e x ⟨vn,rfl,hn,hb⟩;have HA:=hid hn;obtain ⟨⟨q1,q2,vd,rfl,hd⟩,-⟩:=hn;obtain ⟨Ad,cd,rfl,-,-⟩:=hd.form;have HP:=hid (parts_n zeroO (.int .i64 n1.code) (.int .i64 n1.sub) (.slice Ad n1.data.length cd) rfl rfl rfl (no8_i _) (no8_i _) (no8_s _ _ _));have HC:=hid (And.intro ST.out.m.lt ST.out.low.size);replace ST:=hid (ST.out.keep hb);clear q1 q2 hd hb)
    | (have tok:=T1.out;refine store_n ST.out.m HP.out _ _ rfl rfl rfl (by kernel_rfl) ?_;intro x2 hb ht;have HT:=hid ht;replace ST:=hid (ST.out.setM hb ht);clear T1 tok hb ht))
   go_meet
   refine ⟨_,rfl,hid ?_⟩
   unfold Met2
   rw [HR.out]
   have hC:=ST.out.hC
   have hC2:=HC.out
   refine ⟨zU,_,_,_,_,ST.out,fun S hS W' hk hs=>⟨zU,_,rfl,HP.out,zeroO_ok,upds_z W',HA.out.off (fun j h3 h4=>(hk j (by rw [HT.out.size];exact h3) (hS j (by omega))).trans (HT.out.block j (by omega))) (by rw [← HT.out.size];exact hs)⟩,?_⟩
   cases g
   ·exact .inr ⟨rfl,rfl⟩
   ·exact .inl ⟨rfl,note_z _⟩
  by_cases h4:k=4
  ·subst h4
   clear hO HU hR3 h1 h2 h3 CN
   by_cases hl2:b=[]
   ·have HR:=hid (show rawM 4 b=(⟨4,zeroO,zeroU,noN⟩,noN) from by show (if b=[] then _ else _)=_;rw [if_pos hl2])
    have z1:((b.length:Int) == 0)=true:=by rw [hl2];rfl
    clear hl2
    go_wp2_with fail
    go_meet
    refine ⟨_,rfl,hid ?_⟩
    unfold Met2
    rw [HR.out]
    exact ⟨zU,zN,_,_,_,ST.out,fun S _ W' _ _=>msgs_plain W' _ _ zeroO_ok,.inl ⟨rfl,note_z _⟩⟩
   ·have HR:=hid (show rawM 4 b=(⟨4,zeroO,zeroU,noN⟩,⟨1,2,[]⟩) from by show (if b=[] then _ else _)=_;rw [if_neg hl2])
    have z1:((b.length:Int) == 0)=false:=by have:=List.length_pos_iff.2 hl2;simp;omega
    clear hl2
    go_wp2_with fail
    go_meet
    refine ⟨_,rfl,hid ?_⟩
    unfold Met2
    rw [HR.out]
    exact ⟨zU,zN,_,_,_,ST.out,fun S _ W' _ _=>msgs_plain W' _ _ zeroO_ok,.inr ⟨rfl,rfl⟩⟩
  have HR:=hid (show rawM k b=(⟨k,zeroO,zeroU,noN⟩,⟨1,3,[]⟩) from by unfold rawM;rw [if_neg h1,if_neg h2,if_neg h3,if_neg h4])
  have y1:(k == 1)=false:=by simp [h1]
  have y2:(k == 2)=false:=by simp [h2]
  have y3:(k == 3)=false:=by simp [h3]
  have y4:(k == 4)=false:=by simp [h4]
  have T2:=hid True.intro
  have CF:=hid (fun W=>fault13 3 W)
  clear hO HU hR3 CN
  go_wp2_with (first
   | (go_at_call 49;refine (CF.out _).mono ?_;rintro e x ⟨rfl,hb⟩;replace ST:=hid (ST.out.keep hb);clear hb CF)
   | (have tok:=T2.out;refine store_b ST.out.n _ _ rfl rfl (by rfl) (by decide) (by kernel_rfl) ?_;intro x3 hb ht;replace ST:=hid (ST.out.setN hb ht);clear T2 tok hb ht))
  go_meet
  refine ⟨_,rfl,hid ?_⟩
  unfold Met2
  rw [HR.out]
  exact ⟨zU,zN,_,_,_,ST.out,fun S _ W' _ _=>msgs_plain W' _ _ zeroO_ok,.inl ⟨rfl,show (Lit.int .i64 1).wf=true by decide,show (Lit.int .i64 3).wf=true by decide,_,rfl,U8s.nil _⟩⟩
 case rest =>
 rename_i HKK
 obtain ⟨g,rfl,hm⟩:=hcut
 refine HKK _ _ ?_
 clear HKK ST hO HU hl hc hc2 hR3 CN HV c0 c1
 obtain ⟨U,N,y0,y1,y2,hst,hfirm,hn⟩:=hm.out
 have ST:=hid hst
 have HF:=hid (fun (_:(rawM k b).2.code=0) (S:Nat→Prop) (h1:∀ j,wf.heap.size+2≤j→S j) (_:∀ j,0<b.length→(Value.slice A0 b.length n0).ownBlock=some j→j<wf.heap.size→S j)=>hfirm S h1)
 clear hst hfirm hm F0
 cases g
 focus
  have hr:=(hn.resolve_left (fun h=>by cases h.1)).2
  have CF:=hid (fun W=>fault13 2 W)
  clear HF
  have T2:=hid True.intro
  have HC:=hid (And.intro ST.out.m.lt ST.out.n.lt)
  clear hn
  go_upto_region 16 with (first
   | (go_at_call 49;refine (CF.out _).mono ?_;rintro e x ⟨rfl,hb⟩;replace ST:=hid (ST.out.keep hb);clear hb CF)
   | (have tok:=T2.out;refine store_b ST.out.n _ _ rfl rfl (by rfl) (by decide) (by kernel_rfl) ?_;intro wc hb ht;replace ST:=hid (ST.out.setN hb ht);clear T2 tok hb ht))
  have HF:=hid (fun (hz:(rawM k b).2.code=0) (S:Nat→Prop) (_:∀ j,wf.heap.size+2≤j→S j) (_:∀ j,0<b.length→(Value.slice A0 b.length n0).ownBlock=some j→j<wf.heap.size→S j)=>show Firm wc S (fun W=>Msgs W (.agg (mcells (rawM k b).1.kind (ocells (rawM k b).1.op) U N).toArray) (rawM k b).1) from by rw [hr] at hz;cases hz)
  have HN:=hid (show Note wc (.agg #[.int .i64 1,.int .i64 2,.slice none 0 0]) (rawM k b).2 from by rw [hr];exact ⟨show (Lit.int .i64 1).wf=true by decide,show (Lit.int .i64 2).wf=true by decide,_,rfl,U8s.nil _⟩)
  clear hr HC y0 y1 y2
  generalize Value.int .i64 1=y0 at ST HN
  generalize Value.int .i64 2=y1 at ST HN
  generalize Value.slice none 0 0=y2 at ST HN
 rotate_left
 focus
  have HN:=hid (hn.resolve_right (fun h=>by cases h.1)).2
  clear hn
  go_upto_region 16 with fail
 rotate_left
 all_goals
  have HD:=hid (show decM k b=(if (rawM k b).2.code=0 then rawM k b else (zeroM,(rawM k b).2)) from rfl)
  generalize rawM k b=RM at ST HF HN HD
  obtain ⟨⟨k2,o2,u2,n2⟩,⟨cd,sb,dd⟩⟩:=RM
  dsimp only at ST HF HN HD
  obtain ⟨q1,q2,vd,e,hd⟩:=HN.out
  dsimp only at q1 q2 e hd
  injection e with e
  obtain ⟨rfl,rfl,rfl⟩:y0=.int .i64 cd∧y1=.int .i64 sb∧y2=vd:=by simpa using e
  obtain ⟨Ad,cdd,rfl,-,-⟩:=hd.form
  obtain ⟨c0',c1',c2'⟩:=ST.out.n.cells
  clear q1 q2 hd e
  have SD:=hid (ST.out.keep ((Below.refl _ wc).drew:Below wc.heap.size wc wc.drew))
  have hS:wc.drew.cell? ⟨D,0,none⟩=some (.int .i64 cd)∧wc.drew.cell? ⟨D,1,none⟩=some (.int .i64 sb)∧wc.drew.cell? ⟨D,2,none⟩=some (.slice Ad dd.length cdd)∧BoxM wc.drew C k2 (ocells o2) U N:=⟨keepsT ((Below.refl _ wc).drew:Below wc.heap.size wc wc.drew) c0',keepsT ((Below.refl _ wc).drew:Below wc.heap.size wc wc.drew) c1',keepsT ((Below.refl _ wc).drew:Below wc.heap.size wc wc.drew) c2',SD.out.m⟩
  by_cases hcd:cd=0
  ·have y1:(cd != 0)=false:=by simp [hcd]
   have HD2:=hid (show decM k b=(⟨k2,o2,u2,n2⟩,⟨cd,sb,dd⟩) from by rw [HD.out,if_pos hcd])
   have HZ:=hid hcd
   clear hcd HD
   go_upto_region 18 with fail
   clear c0' c1' c2'
   refine wp_region_noPanic ?_
   refine wp_region_held_drew (S:=fun w'=>w'.cell? ⟨D,0,none⟩=some (.int .i64 cd)∧w'.cell? ⟨D,1,none⟩=some (.int .i64 sb)∧w'.cell? ⟨D,2,none⟩=some (.slice Ad dd.length cdd)∧BoxM w' C k2 (ocells o2) U N) (by kernel_rfl) hS (fun h0=>?_)
   refine tk_m 0 55 _ hS (fun _ h=>h.2.2.2) ?_ SD.out.m.parts rfl rfl rfl rfl (by kernel_rfl) rfl (fun _ _ _ h=>h)
   refine Take.tk 1 56 hS ?_
   try simp only [Act.put,Take.nm]
   refine wpAnyH_ready (rs:=[2]) (by kernel_rfl) (by simp) ?_
   refine AllReadyH.cons (o:=_) (by rfl) (fun K1 hK=>?_) AllReadyH.nil
   rw [if_pos (by rfl)]
   refine wp_store_m SD.out.r1 SD.out.m.parts _ _ rfl rfl rfl ?_
   intro w5 hb ht
   have hC:=SD.out.hC
   refine hK.out _ _ ⟨(World.cell?_of_block (ht.block D (by have:=SD.out.low.size;omega))).trans hS.1,(World.cell?_of_block (ht.block D (by omega))).trans hS.2.1,(World.cell?_of_block (ht.block D (by omega))).trans hS.2.2.1,hS.2.2.2.turned ht (by omega)⟩ (fun h1=>?_)
   clear hK K1
   try simp only [Act.put,Take.nm]
   refine wpAnyH_ready (rs:=[3]) (by kernel_rfl) (by simp) ?_
   refine AllReadyH.cons (o:=_) (by rfl) (fun K1 hK=>?_) AllReadyH.nil
   rw [if_pos (by rfl)]
   refine wp_store_b (box3_turned SD.out.r2 ht (Nat.succ_ne_self _)) _ _ rfl rfl rfl (by simp [Value.oneCell']) ?_
   intro w6 hb2 ht2
   refine hK.out _ _ ⟨(World.cell?_of_block (ht2.block D (by omega))).trans ((World.cell?_of_block (ht.block D (by omega))).trans hS.1),(World.cell?_of_block (ht2.block D (by omega))).trans ((World.cell?_of_block (ht.block D (by omega))).trans hS.2.1),(World.cell?_of_block (ht2.block D (by omega))).trans ((World.cell?_of_block (ht.block D (by omega))).trans hS.2.2.1),(hS.2.2.2.turned ht (by omega)).turned ht2 (by omega)⟩ (fun h2=>?_)
   clear hK K1
   simp only [Act.put]
   refine wpAnyH_done (by kernel_rfl) ?_ _
   refine NoPanic.normal ?_
   have E:=hid (note_on ST.out HN.out ht ht2)
   go_wp2_with fail
   refine bodyPost_ret (res_two rfl rfl rfl (hb.turned ht2 (by omega)) hb2) rfl ?_
   refine decG_lift LW.out ?_
   unfold DecG
   rw [HD2.out]
   exact ⟨U,N,_,_,_,rfl,SD.out.m.parts,fun S h1 h2=>firm_on (HF.out HZ.out) ht ht2 S h1 h2,E.out.1,E.out.2⟩
  ·have y1:(cd != 0)=true:=by simp [hcd]
   have HD2:=hid (show decM k b=(zeroM,⟨cd,sb,dd⟩) from by rw [HD.out,if_neg hcd])
   clear hcd HD
   go_upto_region 17 with fail
   clear c0' c1' c2'
   refine wp_region_noPanic ?_
   refine wp_region_held_drew (S:=fun w'=>w'.cell? ⟨D,0,none⟩=some (.int .i64 cd)∧w'.cell? ⟨D,1,none⟩=some (.int .i64 sb)∧w'.cell? ⟨D,2,none⟩=some (.slice Ad dd.length cdd)∧BoxM w' C k2 (ocells o2) U N) (by kernel_rfl) hS (fun h0=>?_)
   refine Take.tk 0 53 hS ?_
   refine Take.tk 1 54 hS ?_
   try simp only [Act.put,Take.nm]
   refine wpAnyH_ready (rs:=[2]) (by kernel_rfl) (by simp) ?_
   refine AllReadyH.cons (o:=_) (by rfl) (fun K1 hK=>?_) AllReadyH.nil
   rw [if_pos (by rfl)]
   refine wp_store_m SD.out.r1 P0.out _ _ rfl rfl rfl ?_
   intro w5 hb ht
   have hC:=SD.out.hC
   refine hK.out _ _ ⟨(World.cell?_of_block (ht.block D (by have:=SD.out.low.size;omega))).trans hS.1,(World.cell?_of_block (ht.block D (by omega))).trans hS.2.1,(World.cell?_of_block (ht.block D (by omega))).trans hS.2.2.1,hS.2.2.2.turned ht (by omega)⟩ (fun h1=>?_)
   clear hK K1
   try simp only [Act.put,Take.nm]
   refine wpAnyH_ready (rs:=[3]) (by kernel_rfl) (by simp) ?_
   refine AllReadyH.cons (o:=_) (by rfl) (fun K1 hK=>?_) AllReadyH.nil
   rw [if_pos (by rfl)]
   refine wp_store_b (box3_turned SD.out.r2 ht (Nat.succ_ne_self _)) _ _ rfl rfl rfl (by simp [Value.oneCell']) ?_
   intro w6 hb2 ht2
   refine hK.out _ _ ⟨(World.cell?_of_block (ht2.block D (by omega))).trans ((World.cell?_of_block (ht.block D (by omega))).trans hS.1),(World.cell?_of_block (ht2.block D (by omega))).trans ((World.cell?_of_block (ht.block D (by omega))).trans hS.2.1),(World.cell?_of_block (ht2.block D (by omega))).trans ((World.cell?_of_block (ht.block D (by omega))).trans hS.2.2.1),(hS.2.2.2.turned ht (by omega)).turned ht2 (by omega)⟩ (fun h2=>?_)
   clear hK K1
   simp only [Act.put]
   refine wpAnyH_done (by kernel_rfl) ?_ _
   refine NoPanic.normal ?_
   have E:=hid (note_on ST.out HN.out ht ht2)
   go_wp2_with fail
   refine bodyPost_ret (res_two rfl rfl rfl (hb.turned ht2 (by omega)) hb2) rfl ?_
   refine decG_lift LW.out ?_
   unfold DecG
   rw [HD2.out]
   exact ⟨zU,zN,_,_,_,rfl,P0.out,fun S _ _ W' _ _=>msgs_plain W' _ _ zeroO_ok,E.out.1,E.out.2⟩
end Msg
namespace Msg
open Go.RowKit Mem Segm Oct Att Seg PR Opn Upd Ntc Frm
open Go.Lib (hid)
theorem keep13 (w:World):Calls Tryz.prog 41 #[] w (fun e w'=>∃ A c,e=.returned (.slice A 19 c)∧U8s w' (.slice A 19 c) (wrapB 4 [])∧Below w.heap.size w w'):=by
 have CW:=hid (fun W=>show Calls Tryz.prog 26 #[.int .i64 4,.slice none 0 0] W (fun e w'=>∃ A c,e=.returned (.tuple #[.slice A 19 c,.int .i64 0])∧U8s w' (.slice A 19 c) (wrapB 4 [])∧Below W.heap.size W w') from by
  obtain ⟨EB,er,h,hc⟩:=wrap_any 4 [] (by decide)
  rcases h with ⟨h,_⟩ | ⟨_,h,_⟩ | ⟨_,_,rfl,rfl⟩
  ·omega
  ·simp at h
  ·exact hc _ W (U8s.nil W))
 go_enter Tryz.func41,Tryz.ntmps41
 go_wp2_with (go_at_call 26;refine (CW.out _).mono ?_;rintro e x ⟨A1,c1,rfl,hu,hb⟩;have V1:=hid hu;have HB1:=hid hb;clear hu hb)
 go_ret
 exact ⟨A1,c1,rfl,V1.out,HB1.out⟩
end Msg
end Go.Proofs.YtjfmompgkkdliaaGreatDoor
