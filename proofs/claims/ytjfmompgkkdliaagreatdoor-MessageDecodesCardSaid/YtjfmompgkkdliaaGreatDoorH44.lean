/- Part of the proof. -/
import Derived.Test.YtjfmompgkkdliaaGreatDoorH42
import Derived.Test.YtjfmompgkkdliaaGreatDoorH43
import Derived.Test.YtjfmompgkkdliaaGreatDoorH13
import Derived.Test.YtjfmompgkkdliaaGreatDoorH39
import Derived.Test.YtjfmompgkkdliaaGreatDoorH04
open Go.Lib (hid)
set_option maxRecDepth 100000
set_option maxHeartbeats 40000000
namespace Go.Proofs.YtjfmompgkkdliaaGreatDoor
namespace Msg
open Go.RowKit Mem Segm Oct Att PR Opn Upd Ntc Frm
open Go.Lib (hid)
theorem no_block (W:World) (i:Nat):W.cell? ⟨W.heap.size,i,none⟩=none:=by
 unfold World.cell?
 dsimp only
 rw [Array.getElem?_eq_none (Nat.le_refl _)]
theorem rr_begin {w x:World} {pv:Value} {P:List Pc} {n:No} {A2:Option Addr} {k2 c2:Nat} {qs:List Value} (hp:Pcs x pv P qs) (hd:U8s x (.slice A2 k2 c2) n.data) (h1:(Lit.int .i64 n.code).wf=true) (h2:(Lit.int .i64 n.sub).wf=true)
  (hb:Below (w.alloc (.cells #[.int .i64 0,.int .i64 0,.slice none 0 0] 34)).heap.size (w.alloc (.cells #[.int .i64 0,.int .i64 0,.slice none 0 0] 34)) x) :
  RrSt w pv P qs x.heap.size (.int .i64 n.code) (.int .i64 n.sub) (.slice A2 k2 c2) n [] none 0 (x.alloc (.cells #[.int .i64 n.code,.int .i64 n.sub,.slice A2 k2 c2] 34)):=by
 have hX:=Box3.new w 34 (.int .i64 0) (.int .i64 0) (.slice none 0 0)
 have hB:=box_low w (.int .i64 0) (.int .i64 0) (.slice none 0 0)
 have h5:=box_low x (.int .i64 n.code) (.int .i64 n.sub) (.slice A2 k2 c2)
 have hall:=hb.trans (h5.mono hb.size)
 have hbox:=Box3.new x 34 (.int .i64 n.code) (.int .i64 n.sub) (.slice A2 k2 c2)
 refine ⟨hX.keep hall,hB.trans (hall.mono hB.size),⟨[],⟨rfl,.inl ⟨rfl,rfl⟩⟩,Rows.nil _ _ _⟩,fun _ _ b off m c _ _ e=>(by cases e),fun W' hk hs=>?_⟩
 have hk2:∀ k,k<(x.alloc (.cells #[.int .i64 n.code,.int .i64 n.sub,.slice A2 k2 c2] 34)).heap.size→W'.heap[k]?=(x.alloc (.cells #[.int .i64 n.code,.int .i64 n.sub,.slice A2 k2 c2] 34)).heap[k]?:=fun k h1=>hk k h1 (fun e=>by cases e)
 exact ⟨pcs_hole (hp.keep h5) (no_block _) (fun k h1 _=>hk2 k h1) hs,⟨h1,h2,_,rfl,u8_hole (hd.keep h5) (no_block _) (fun k h1 _=>hk2 k h1) hs⟩,hbox.below (fun k hk3=>hk2 k (by subst hk3;simp))⟩
theorem pread13 (v:Value) (b:List Nat) (w:World) (hv:U8s w v b) (hl:b.length≤100000)
  (hDec:∀ (k:Int) (v:Value) (b:List Nat) (W:World),U8s W v b→b.length≤4077→Below w.heap.size w W→Calls Tryz.prog 20 #[.agg #[.int .i64 k,v]] W (DecG k b v W)):Calls Tryz.prog 18 #[v] w (ReadF (readM b) w):=by
 obtain ⟨A0,c,rfl,hc,hc2⟩:=hv.form
 have B1:=hid (box_low w (.int .i64 0) (.int .i64 0) (.slice none 0 0))
 have CP:=hid ((split_any (.slice A0 b.length c) b _ (hv.keep B1.out) hl).mono fun _ _ h=>h.pieces)
 have HB:=hid (pcs_bound b)
 have HW:=hid (pcs_wf b)
 have HR:=hid (show readM b=readL (pcs b).2.2 (pcs b).1 from rfl)
 clear B1 hv hc hc2
 unfold PiecesF at CP
 generalize readM b=RM at HR ⊢
 generalize (pcs b).1=P at CP HB HR
 generalize (pcs b).2.1=k0 at CP
 generalize (pcs b).2.2=n at CP HW HR
 obtain ⟨cd,sb,dd⟩:=n
 (try dsimp only at CP)
 go_enter Tryz.func18,Tryz.ntmps18
 go_wp2_with (go_at_call 45;refine (CP.out).mono ?_;rintro e x ⟨Ap,cp,A2,k2,c2x,rfl,hp,hU,hb⟩;obtain ⟨qs,hp⟩:=hp;have ST:=hid (rr_begin (n:=⟨cd,sb,dd⟩) (hp:Pcs _ _ _ qs) hU HW.out.1 HW.out.2 hb);clear hp hU hb)
 clear CP HW
 (try dsimp only at ST)
 generalize x.alloc (.cells #[.int .i64 cd,.int .i64 sb,.slice A2 k2 c2x] 34)=W0 at ST ⊢
 generalize x.heap.size=D at ST ⊢
 go_loopw [5,6,22] (fun v5 v6 v22 wx=>∃ (i k:Nat) (F:List Ms) (A:Option Addr) (ca:Nat),i≤P.length∧F.length≤i∧k≤i*5000∧v22=.int .i64 i∧v6=.int .i64 k∧v5=.slice A F.length ca∧Hid (RestM ⟨cd,sb,dd⟩ P i F k)∧Hid (RrSt w (.slice Ap P.length cp) P qs D (.int .i64 cd) (.int .i64 sb) (.slice A2 k2 c2x) ⟨cd,sb,dd⟩ F A ca wx)) (fun _ _ v22 _=>P.length - (intOf v22).toNat)
 case atStart=>exact ⟨0,0,[],none,0,Nat.zero_le _,Nat.le_refl _,Nat.le_refl _,rfl,rfl,rfl,hid restm_start,ST⟩
 case round =>
  obtain ⟨i,k,F,A,ca,hi,hF,hk,rfl,rfl,rfl,HS,ST⟩:=hrel
  by_cases hlt:P.length≤i
  ·have z1:¬ ((i:Int)<(P.length:Int)):=by omega
   have E:=hid (restm_end HS.out hlt)
   clear hlt HS
   obtain ⟨c0,c1,c2⟩:=ST.out.box.cells
   have ff:=ST.out.box.free
   obtain ⟨d0,d1,d2⟩:=ST.out.firm.now.2.2.cells
   obtain rfl:=HR.out.trans E.out
   go_wp2
   go_region
   go_wp2
   (try simp only [Exit.inBlock,Exit.then])
   have r0:=(ST.out.box.set0 (.int .i64 cd)).cells.1
   have r1:=((ST.out.box.set0 (.int .i64 cd)).set1 (.int .i64 sb)).cells.2.1
   have r2:=(ST.out.box.laid (.int .i64 cd) (.int .i64 sb) (.slice A2 k2 c2x)).cells.2.2
   unfold three at r2
   refine bodyPost_ret (v:=.tuple #[.slice A F.length ca,.int .i64 (k:Nat),.agg #[.int .i64 cd,.int .i64 sb,.slice A2 k2 c2x]]) (by simp [results,Tryz.results18,go_sem,r0,r1,r2]) rfl ?_
   exact (rr_end ST.out ST.out.firm.now.2.1).drew
  ·have hlt2:i<P.length:=by omega
   have z1:(i:Int)<(P.length:Int):=by omega
   have hPi:=List.getElem?_eq_getElem hlt2
   obtain ⟨hd1,hd2⟩:=HB.out.2 _ (List.getElem_mem hlt2)
   generalize P[i]=s at hPi hd1 hd2
   obtain ⟨t,d⟩:=s
   dsimp only at hd1 hd2
   obtain ⟨bp,off,xv,rfl,hbp,hc1,hc2,hud,hxq⟩:=ST.out.firm.now.1.at_ hPi
   dsimp only at hc1 hc2 hud
   obtain ⟨Ax,cx,rfl,-,-⟩:=hud.form
   have VD:=hid hud
   have HX:=hid hxq
   have HP:=hid hPi
   have HY:=hid ((Below.refl wr.heap.size wr).alloc (Nat.le_refl _) (.cells #[.int .i64 (t:Nat),.slice Ax d.length cx] 53))
   have f0:(wr.alloc (.cells #[.int .i64 (t:Nat),.slice Ax d.length cx] 53)).heap[wr.heap.size]?=some (.cells #[.int .i64 (t:Nat),.slice Ax d.length cx] 53 (0,0)):=heap_alloc_new _ _
   have f1:(wr.alloc (.cells #[.int .i64 (t:Nat),.slice Ax d.length cx] 53)).cell? ⟨wr.heap.size,0,none⟩=some (.int .i64 (t:Nat)):=by simp
   have f2:(wr.alloc (.cells #[.int .i64 (t:Nat),.slice Ax d.length cx] 53)).cell? ⟨wr.heap.size,1,none⟩=some (.slice Ax d.length cx):=by simp
   have CD:=hid hDec
   clear hud hxq hPi hlt hDec
   go_upto_region 7 with fail
   clear hc1 hc2
   generalize wr.alloc (.cells #[.int .i64 (t:Nat),.slice Ax d.length cx] 53)=y1 at HY f0 f1 f2 ⊢
   have F2:=hid f2
   have FL:=hid (show wr.heap.size<y1.heap.size from (Array.getElem?_eq_some_iff.1 f0).1)
   clear f0
   have T1:=hid True.intro
   go_upto_region 8 with (first
    | (go_at_call 20;refine (CD.out _ _ _ _ (VD.out.keep HY.out) hd2 (ST.out.low.trans (HY.out.mono ST.out.low.size))).mono ?_;rintro e u ⟨U,N,x0,x1,x2,rfl,hp,hf,hn,hb⟩;have DP:=hid hp;have FF:=hid (rr_firm ST.out HX.out VD.out HY.out.size hf);have HN:=hid hn;have QN:=hid (note_ones hn);have HU:=hid hb;have HM:=hid (rd_start u);obtain ⟨w3,hw3⟩:∃ w3,(u.alloc (.cells #[.int .i64 0,.int .u32 0,.int .i64 0,.int .u32 0,.bool false,.slice none 0 0,.int .i64 0,.int .i64 0,.slice none 0 0,.int .u32 0,.int .u32 0,.int .u32 0,.int .u32 0,.int .u32 0,.slice none 0 0,.slice none 0 0,.int .i64 0,.int .i64 0,.slice none 0 0] 36)).alloc (.cells #[.int .i64 0,.int .i64 0,.slice none 0 0] 34)=w3:=⟨_,rfl⟩;unfold z19 z3 at HM;rw [hw3] at HM;clear hp hf hn hb f1 f2 CD)
    | (have tok:=T1.out;refine store_m HM.out.1 DP.out _ _ rfl rfl rfl (by kernel_rfl) ?_;intro w4 hb4 ht4;have B4:=hid hb4;have H4:=hid ht4;have T2:=hid tok;clear T1 tok hb4 ht4)
    | (have tok:=T2.out;refine store_b (box3_turned HM.out.2.1 H4.out (Nat.succ_ne_self _)) _ _ rfl rfl rfl (fun z hz=>QN.out _ hz) (by kernel_rfl) ?_;intro wc hb5 ht5;have B5:=hid hb5;have H5:=hid ht5;clear T2 tok hb5 ht5))
   have hu:=HU.out.size
   have hfl:=FL.out
   have hys:=HY.out.size
   have hlow3:Below wr.heap.size wr w3:=HY.out.trans ((HU.out.trans (HM.out.2.2.1.mono HU.out.size)).mono HY.out.size)
   have MID:=hid (rr_mid (U0:=y1.heap.size) hlow3 HM.out.2.2.1 HM.out.1 HM.out.2.1 ⟨no8_i _,no8_i _,no8_s _ _ _⟩ (Nat.succ_ne_self _).symm ⟨by omega,.inr (Nat.le_refl _)⟩ ⟨by omega,.inr (Nat.le_succ _)⟩ HN.out FF.out B4.out H4.out B5.out H5.out)
   have hfr:wc.cell? ⟨wr.heap.size,1,none⟩=some (.slice Ax d.length cx) :=
    (World.cell?_of_block ((H5.out.block wr.heap.size (by omega)).trans ((H4.out.block wr.heap.size (by omega)).trans ((HM.out.2.2.1.block wr.heap.size (by omega)).trans (HU.out.block wr.heap.size hfl))))).trans F2.out
   have FR:=hid hfr
   clear hw3 hu hys hlow3 hfr HU HM F2 B4 H4 B5 H5 FF HN QN DP HY
   generalize u.heap.size+1=C at MID ⊢
   generalize u.heap.size=B at MID ⊢
   obtain ⟨B',C',U',N',x0',x1',x2',e1,e2,hB,hC,hN,hF2,hlow,hBy⟩:=MID.out
   injection e1 with e1
   injection e1 with e1
   injection e1 with e1 _ _
   subst e1
   injection e2 with e2
   injection e2 with e2
   injection e2 with e2 _ _
   subst e2
   have S6:=hid (ST.out.keep hlow)
   have HE1:=hid (fun hc=>restm_bad HS.out HP.out hc)
   have HE2:=hid (fun hc=>restm_more HS.out HP.out hc)
   have hown1:∀ j,(Value.slice A F.length ca).ownBlock=some j→j<wr.heap.size:=fun j e=>by
    obtain ⟨q,h1,-⟩:=ST.out.own
    exact (h1.lt j e).2
   have HO:=hid hown1
   have hlow2:=hlow.size
   clear MID HS hlow VD HX hown1 HP
   dsimp only at HE1 HE2
   generalize decM (t:Int) d=DM at *
   obtain ⟨⟨k3,o3,u3x,n3⟩,⟨cd2,sb2,dd2⟩⟩:=DM
   dsimp only at *
   have HB3:=hid hB
   have HC3:=hid hC
   have HN3:=hid hN
   have HF3:=hid hF2
   clear hB hC hN hF2
   obtain ⟨q1,q2,vd,e,hd⟩:=HN3.out
   dsimp only at q1 q2 e hd
   injection e with e
   obtain ⟨rfl,rfl,rfl⟩:x0'=.int .i64 cd2∧x1'=.int .i64 sb2∧x2'=vd:=by simpa using e
   obtain ⟨Ad,cdd,rfl,-,-⟩:=hd.form
   clear q1 q2 hd e
   by_cases hcd:cd2=0
   ·have y1:(cd2 != 0)=false:=by simp [hcd]
    have E:=hid (HE2.out hcd)
    obtain ⟨d0,d1,d2⟩:=HC3.out.cells
    clear HE1 HE2 hcd
    have hPb:=HB.out.1
    have w19:IntKind.i64.wrap (19+(d.length:Int))=19+(d.length:Int):=IntWalk.i64_in _ (by omega)
    have wd:IntKind.i64.wrap ((k:Int)+(19+(d.length:Int)))=(k:Int)+(19+(d.length:Int)):=IntWalk.i64_in _ (by omega)
    obtain ⟨i0,E0⟩:=elemMs
    obtain ⟨q,hrow,hrows⟩:=S6.out.own
    have HRW:=hid hrow
    have HRS:=hid hrows
    have HXX:=hid (show Below wc.heap.size wc (wc.alloc (.cells (mcells k3 (ocells o3) U' N').toArray 36)) from (Below.refl _ wc).alloc (Nat.le_refl _) _)
    clear hrow hrows
    have T1:=hid True.intro
    go_wp2_with (first
     | (have tok:=T1.out;refine load_m HB3.out _ rfl rfl (by kernel_rfl) ?_;have T2:=hid tok;clear T1 tok)
     | (have tok:=T2.out;refine wpList_plain rfl fun K1 hK=>?_;refine wp_build_one 39 rfl HB3.out.parts _ rfl rfl (fun hRow=>?_);refine hK _ _ ?_;have T3:=hid hRow;clear T2 tok hRow hK d0 d1 d2)
     | (have hRow:=T3.out;at_builtin;refine wpList_append_row rfl (.tmp 37) (.tmp 39) rfl E0 (w.heap.size+1) _ F.length q.flatten rfl (own_keep HRW.out HXX.out) _ 1 (mcells k3 (ocells o3) U' N') rfl hRow (HB3.out.parts.cells _) (by unfold maxLen;omega) (by omega) (Nat.le_trans S6.out.box.lt HXX.out.size) (F.length+1) rfl ?_;intro A' c' W' hown hg hat hb;have ST2:=hid (rr_more S6.out HXX.out HRS.out HF3.out hown hg hat hb);have fr2:W'.cell? ⟨wr.heap.size,1,none⟩=some (.slice Ax d.length cx):=(World.cell?_of_block (hg.block wr.heap.size (Nat.lt_of_lt_of_le (Nat.lt_of_le_of_lt hBy HB3.out.lt) HXX.out.size) (fun e=>by have:=HO.out wr.heap.size e.symm;omega))).trans (keepsT HXX.out FR.out);clear T3 hRow hown hg hat hb))
    go_roundw
    case rel=>exact ⟨i+1,k+19+d.length,_,A',c',by omega,by rw [List.length_append,List.length_singleton];omega,by omega,by go_num,by go_num,by rw [List.length_append,List.length_singleton],E,ST2⟩
    case measure=>simp [intOf];omega
   ·have y1:(cd2 != 0)=true:=by simp [hcd]
    have E:=hid (HE1.out hcd)
    obtain rfl:=HR.out.trans E.out
    obtain ⟨c0,c1,c2⟩:=S6.out.box.cells
    have ff:=S6.out.box.free
    obtain ⟨d0,d1,d2⟩:=HC3.out.cells
    clear HE1 HE2 hcd
    go_upto_region 9 with fail
    go_region
    go_wp2
    (try simp only [Exit.inBlock,Exit.then])
    have r0:=(S6.out.box.set0 (.int .i64 cd2)).cells.1
    have r1:=((S6.out.box.set0 (.int .i64 cd2)).set1 (.int .i64 sb2)).cells.2.1
    have r2:=(S6.out.box.laid (.int .i64 cd2) (.int .i64 sb2) (.slice Ad dd2.length cdd)).cells.2.2
    unfold three at r2
    refine bodyPost_ret (v:=.tuple #[.slice A F.length ca,.int .i64 (k:Nat),.agg #[.int .i64 cd2,.int .i64 sb2,.slice Ad dd2.length cdd]]) (by simp [results,Tryz.results18,go_sem,r0,r1,r2]) rfl ?_
    exact (rr_end S6.out HN3.out).drew
end Msg
namespace Msg
open Go.RowKit Mem Segm Oct Att PR Opn Upd Ntc Frm
open Go.Lib (hid)
def liveM:Ms:=⟨4,zeroO,zeroU,noN⟩
theorem live_read:readM (wrapB 4 [])=([liveM],19,noN):=by rfl
theorem lives13_any (w:World) (hDec:∀ (k:Int) (v:Value) (b:List Nat) (W:World),U8s W v b→b.length≤4077→Below w.heap.size w W→Calls Tryz.prog 20 #[.agg #[.int .i64 k,v]] W (DecG k b v W)):Calls Tryz.prog 15 #[] w (Tells (.bool true) w):=by
 have CK:=hid (keep13 w)
 have CR:=hid (fun v W (h:U8s W v (wrapB 4 [])) (hb:Below w.heap.size w W)=>(pread13 v _ W h (by rw [wrapB_len];decide) (fun k v b W2 h1 h2 h3=>hDec k v b W2 h1 h2 (hb.trans (h3.mono hb.size)))).mono fun _ _ h2=>read_lit (live_read ▸ h2))
 unfold ReadL noN at CR
 dsimp only at CR
 simp only [List.length_singleton] at CR
 clear hDec
 go_enter Tryz.func15,Tryz.ntmps15
 go_upto_region 2 with (first
  | (go_at_call 41;refine CK.out.mono ?_;rintro e x ⟨A1,c1,rfl,hu,hb⟩;have V1:=hid hu;have HB:=hid hb;clear hu hb)
  | (go_at_call 18;refine (CR.out _ _ V1.out HB.out).mono ?_;rintro e y ⟨A2,c2,A3,k3,c3,rfl,hm,-,hb⟩;have hb2:=box_low y (.int .i64 0) (.int .i64 0) (.slice A3 k3 c3);have M2:=hid (hm.keep hb2);have X2:=hid (Box3.new y 34 (.int .i64 0) (.int .i64 0) (.slice A3 k3 c3));have HB2:=hid ((HB.out.trans (hb.mono HB.out.size)).trans (hb2.mono (HB.out.trans (hb.mono HB.out.size)).size));clear hm hb hb2))
 obtain ⟨b1,o1,U,N,rfl,hlt,hr,-,-⟩:=M2.out.at_ (k:=0) (m:=liveM) rfl
 have m0:=hr 0 (.int .i64 4) rfl
 rw [Nat.zero_mul,Nat.add_zero] at m0
 obtain ⟨p0,p1,p2⟩:=X2.out.cells
 clear hr M2 X2
 generalize y.alloc (.cells #[.int .i64 0,.int .i64 0,.slice A3 k3 c3] 34)=z at m0 p0 p1 p2 HB2 hlt ⊢
 go_wp2
 go_ret
 exact ⟨rfl,HB2.out⟩
end Msg
namespace Msg
open Go.RowKit Mem Segm Oct Att PR Opn Upd Ntc Frm
theorem pdec_all (w:World) (hS:Shp w) (k:Int) (v:Value) (b:List Nat) (W:World) (hv:U8s W v b) (hl:b.length≤4077) (hb:Below w.heap.size w W):Calls Tryz.prog 20 #[.agg #[.int .i64 k,v]] W (DecG k b v W) :=
 pdec13 k v b W hv hl (fun _ W2 h=>(Opn.decode_p v b W2 h (by omega)).mono fun e w' ⟨vn,h1,h2,h3⟩=>⟨vn,h1,out_ok hv.2,h2,h3⟩) (fun _ W2 h hb2=>Upd.udec_any v b W2 h (by omega) ((hS.keep hb).keep hb2))
theorem pread_all (w:World) (hS:Shp w) (v:Value) (b:List Nat) (W:World) (hv:U8s W v b) (hl:b.length≤100000) (hb:Below w.heap.size w W):Calls Tryz.prog 18 #[v] W (ReadF (readM b) W) :=
 pread13 v b W hv hl (fun k v b W2 h1 h2 h3=>pdec_all w hS k v b W2 h1 h2 (hb.trans (h3.mono hb.size)))
theorem lives_all (w:World) (hS:Shp w) (W:World) (hb:Below w.heap.size w W):Calls Tryz.prog 15 #[] W (Tells (.bool true) W) :=
 lives13_any W (fun k v b W2 h1 h2 h3=>pdec_all w hS k v b W2 h1 h2 (hb.trans (h3.mono hb.size)))
end Msg
end Go.Proofs.YtjfmompgkkdliaaGreatDoor
