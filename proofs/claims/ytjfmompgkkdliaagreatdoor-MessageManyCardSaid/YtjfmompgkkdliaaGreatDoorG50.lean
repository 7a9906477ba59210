/- Part of the proof. -/
import Derived.Test.YtjfmompgkkdliaaGreatDoorG44
open Go.Lib (hid)
set_option maxRecDepth 100000
set_option maxHeartbeats 40000000
namespace Go.Proofs.YtjfmompgkkdliaaGreatDoor
namespace Msg
open Go.RowKit Mem Segm Oct Att Seg PR Opn Upd Ntc Frm
open Go.Lib (hid)
theorem msF_firm {n:Nat} {W:World} {q:Ms} {U N:List Value} (hp0:Parts (ocells q.op) U N) (h:MsF n W (.agg (mcells q.kind (ocells q.op) U N).toArray) q):Firm W (fun j=>n≤j) (fun W=>Msgs W (onlyV q U N) (onlyM q)):=fun W' hk hs=>by
 obtain ⟨h1,h2⟩:=mix_off hs (fun k h1 h2=>hk k h1 h2)
 obtain ⟨U',N',e,hp,ho,hu,hn⟩:=(h.keep (mix_low hs)).off h1 h2
 have e2:=agg_inj e
 have e3:U ++ N=U' ++ N':=by
  unfold mcells at e2
  injection e2 with _ e2
  exact List.append_cancel_left e2
 obtain ⟨rfl,rfl⟩:=List.append_inj e3 (by rw [hp0.lu,hp.lu])
 exact only_msgs hp ho hu.upds hn.note
def Many (X:List Ms) (Y:List Nat) (i:Nat):Prop:=∃ G:List Ms,(∀ m∈G,GoodW m)∧X=G.map onlyM∧Y=G.flatMap wireM∧X.length≤i∧Y.length≤i*5000
theorem many_read {X:List Ms} {Y:List Nat} {i:Nat} (h:Many X Y i):readM Y=(X,Y.length,noN):=by
 obtain ⟨G,h1,rfl,rfl,-⟩:=h
 exact read_many G h1
theorem many_more {X:List Ms} {Y L:List Nat} {i:Nat} {q:Ms} (h:Many X Y i) (hq:GoodW q) (hL:wireM q=L) (hl:L.length≤4096):Many (X ++ [onlyM q]) (Y ++ L) (i+1):=by
 obtain ⟨G,h1,h2,h3,h4,h5⟩:=h
 refine ⟨G ++ [q],fun m hm=>(List.mem_append.1 hm).elim (h1 m) (fun k=>by rw [List.mem_singleton.1 k];exact hq),by rw [h2,List.map_append];rfl,by rw [h3,List.flatMap_append,List.flatMap_cons,List.flatMap_nil,List.append_nil,hL],by rw [List.length_append,List.length_singleton];omega,by rw [List.length_append];omega⟩
theorem many_skip {X:List Ms} {Y:List Nat} {i:Nat} (h:Many X Y i):Many X Y (i+1):=by
 obtain ⟨G,h1,h2,h3,h4,h5⟩:=h
 exact ⟨G,h1,h2,h3,Nat.le_trans h4 (Nat.le_succ i),Nat.le_trans h5 (Nat.mul_le_mul_right _ (Nat.le_succ i))⟩
structure MnSt (w:World) (X:List Ms) (Y:List Nat) (Ab Ao:Option Addr) (cb co:Nat) (W:World):Prop where
 low:Below w.heap.size w W
 ob:W.ownsRow w.heap.size 5 1 (.slice Ab Y.length cb) Y.length (cells8 Y)
 small:Small Y
 om:OwnMsgl (fun j=>(Value.slice Ab Y.length cb).ownBlock≠some j) 36 w.heap.size W (.slice Ao X.length co) X
section
variable {w W W':World} {X:List Ms} {Y:List Nat} {Ab Ao Ab' Ao':Option Addr} {cb co cb' co':Nat}
theorem MnSt.keep (h:MnSt w X Y Ab Ao cb co W) (hb:Below W.heap.size W W'):MnSt w X Y Ab Ao cb co W' :=
 ⟨h.low.trans (hb.mono h.low.size),own_keep h.ob hb,h.small,h.om.keep hb⟩
theorem MnSt.bytes {L:List Nat} (h:MnSt w X Y Ab Ao cb co W) (hL:Small L) (hown:W'.ownsRow w.heap.size 5 1 (.slice Ab' (Y ++ L).length cb') (Y ++ L).length (cells8 Y ++ cells8 L)) (hg:W.grownBy W' (Value.slice Ab Y.length cb).ownBlock)
  (hat:(Value.slice Ab' (Y ++ L).length cb').ownBlock=(Value.slice Ab Y.length cb).ownBlock∨(Value.slice Ab' (Y ++ L).length cb').ownBlock=some W.heap.size) (hb:Below w.heap.size W W'):MnSt w X (Y ++ L) Ab' Ao cb' co W':=by
 obtain ⟨q,h1,h2⟩:=h.om
 refine ⟨h.low.trans hb,by rw [show cells8 (Y ++ L)=cells8 Y ++ cells8 L from by unfold cells8;rw [List.map_append]];exact hown,h.small.append hL,q,own_same2 h1 (fun g hg2=>hg.block g (h1.lt g hg2).2 (fun e=>own_unlike h.ob h1 (by decide) g e.symm hg2)),h2.1,fun k x m e1 e2=>(h2.2 k x m e1 e2).on (fun j hj hS=>⟨⟨?_,hS.2⟩,hg.block j hj (fun e=>hS.1 e.symm)⟩) hg.size⟩
 rcases hat with e | e
 ·rw [e];exact hS.1
 ·rw [e]
  intro e3
  injection e3 with e3
  omega
theorem MnSt.more {Z:World} {q:List (List Value)} {x:List Value} {m:Ms} (h:MnSt w X Y Ab Ao cb co W) (hX:Below W.heap.size W Z) (hr:Rows (fun j=>(Value.slice Ab Y.length cb).ownBlock≠some j) W (.slice Ao X.length co) X q)
  (hx:Firm W (fun j=>(Value.slice Ab Y.length cb).ownBlock≠some j∧(Value.slice Ao X.length co).ownBlock≠some j) (fun W=>Msgs W (.agg x.toArray) m)) (hro:W.ownsRow w.heap.size 36 19 (.slice Ao X.length co) X.length q.flatten)
  (hown:W'.ownsRow w.heap.size 36 19 (.slice Ao' (X.length+1) co') (X.length+1) (q.flatten ++ x)) (hg:Z.grownBy W' (Value.slice Ao X.length co).ownBlock)
  (hat:(Value.slice Ao' (X.length+1) co').ownBlock=(Value.slice Ao X.length co).ownBlock∨(Value.slice Ao' (X.length+1) co').ownBlock=some Z.heap.size) (hb:Below w.heap.size Z W'):MnSt w (X ++ [m]) Y Ab Ao' cb co' W':=by
 have hl:(X ++ [m]).length=X.length+1:=by simp
 refine ⟨(h.low.trans (hX.mono h.low.size)).trans hb,own_same2 (own_keep h.ob hX) (fun g hg2=>hg.block g ((own_keep h.ob hX).lt g hg2).2 (fun e=>own_unlike h.ob hro (by decide) g hg2 e.symm)),h.small,?_⟩
 rw [hl]
 exact msgl_grown hX hr (Rows.one hx) hg hat hX.size rfl (by simpa using hown)
end
theorem many_of (v:Value) (l:List Ms) (w:World) (hv:Msgl w v l) (ask:Asked w):Calls Tryz.prog 6 #[v] w (Tells (.bool true) w):=by
 obtain ⟨A0,c0,rfl,hc,hc2⟩:=hv.form
 have HV:=hid hv
 have AS:=hid ask
 clear hv ask
 have ST0:=hid (show MnSt w [] [] (some ⟨w.heap.size,0,none⟩) (some ⟨w.heap.size+1,0,none⟩) 0 0 ((w.alloc (.cells #[] 5)).alloc (.cells #[] 36)) from by
  have h1:=(Below.refl w.heap.size w).alloc (Nat.le_refl _) (.cells #[] 5)
  have h2:=(Below.refl (w.alloc (.cells #[] 5)).heap.size (w.alloc (.cells #[] 5))).alloc (Nat.le_refl _) (.cells #[] 36)
  have h3:=heap_alloc_new (w.alloc (.cells #[] 5)) (.cells #[] 36)
  rw [show (w.alloc (.cells #[] 5)).heap.size=w.heap.size+1 by simp] at h3
  exact ⟨h1.trans (h2.mono h1.size),own_keep (own_lit8 w [] #[] 0 rfl rfl (by decide)) h2,fun x hx=>(by cases hx),[],⟨rfl,.inr ⟨w.heap.size+1,0,#[],rfl,Nat.le_succ _,h3,Nat.le_refl _,by decide,rfl,rfl⟩⟩,Rows.nil _ _ _⟩)
 go_enter Tryz.func6,Tryz.ntmps6
 go_wp2_with fail
 go_loopw [3,4,5] (fun v3 v4 v5 wx=>∃ (i:Nat) (X:List Ms) (Y:List Nat) (Ab Ao:Option Addr) (cb co:Nat),i≤8∧i≤l.length∧v5=.int .i64 i∧v3=.slice Ab Y.length cb∧v4=.slice Ao X.length co∧Hid (Many X Y i)∧Hid (MnSt w X Y Ab Ao cb co wx)) (fun _ _ v5 _=>8 - (intOf v5).toNat)
 case atStart=>exact ⟨0,[],[],_,_,0,0,by omega,by omega,rfl,rfl,rfl,hid ⟨[],fun m hm=>(by cases hm),rfl,rfl,Nat.le_refl _,Nat.le_refl _⟩,ST0⟩
 case round =>
  obtain ⟨i,X,Y,Ab,Ao,cb,co,hi8,hil,rfl,rfl,rfl,HM,ST⟩:=hrel
  by_cases hgo:i<l.length∧i<8
  ·obtain ⟨hg1,hg2⟩:=hgo
   have z1:(i:Int)<(l.length:Int):=by omega
   have z2:(i:Int)<8:=by omega
   have hli:=List.getElem?_eq_getElem hg1
   generalize l[i]=m at hli
   obtain ⟨q,hq⟩:∃ q,fewM m=q:=⟨_,rfl⟩
   have hq2:fewM q=q:=by rw [← hq];exact fewM_twice m
   obtain ⟨b1,o1,U1,N1,rfl,hb1,hr1,hp1,hm1⟩:=HV.out.at_ hli
   have HRW:=hid (fun W (h:Below w.heap.size w W)=>range_keep hr1 h)
   have HP1:=hid hp1
   have CF:=hid (fun W (h:Below w.heap.size w W)=>few_lit (hm1.keep h) hq)
   have CE:=hid (fun v W (h:Msgs W v q) (hb:Below w.heap.size w W)=>AS.out.enc v q W h hq2 hb)
   unfold FewL at CF
   unfold WrapF at CE
   have HE:=hid (show encR q=if goodM q then (if 4077<(bodyM q).length then ([],6) else (wireM q,0)) else ([],1) from rfl)
   have HGD:=hid (fun v W (h:Msgs W v q) hg hl=>AS.out.goodw v q W h hq2 hg hl)
   generalize hER:encR q=ER at CE HE
   obtain ⟨EB,er⟩:=ER
   dsimp only at CE
   clear hr1 hp1 hm1 hli hq hq2 hER
   have T0:=hid True.intro
   go_upto_region 6 with (first
    | (have tok:=T0.out;refine load_row (by kernel_rfl) 36 _ rfl (o1+i*19) rfl _ _ (HRW.out _ ST.out.low) Tryz.underlying36 rfl (by rw [mcells_len HP1.out.lo HP1.out.lu HP1.out.ln];kernel_rfl) ?_;clear T0 tok)
    | (go_at_call 7;refine (CF.out _ ST.out.low).mono ?_;rintro e z1 ⟨U2,N2,rfl,-,hm,hb⟩;have M1:=hid hm.msgs;replace ST:=hid (ST.out.keep hb);clear hm hb)
    | (go_at_call 8;refine (CE.out _ _ M1.out ST.out.low).mono ?_;rintro e z2 ⟨Ae,ce,rfl,hu,hb⟩;have HU:=hid hu;have MQ:=hid (M1.out.keep hb);replace ST:=hid (ST.out.keep hb);clear hu hb M1))
   by_cases hok:goodM q=true∧(bodyM q).length≤4077
   ·obtain ⟨L,hLe⟩:∃ L,wireM q=L:=⟨_,rfl⟩
    obtain ⟨rfl,rfl⟩:EB=L∧er=0:=by
     have h:=HE.out
     rw [hok.1,if_pos rfl,if_neg (by omega),hLe] at h
     simpa using h
    have hGW:=HGD.out _ _ MQ.out hok.1 hok.2
    have hEL:EB.length≤4096:=by
     have h:=wrapB_len q.kind (bodyM q)
     rw [show wrapB q.kind (bodyM q)=EB from hLe] at h
     omega
    have HM2:=hid (many_more HM.out hGW hLe hEL)
    have hYX:X.length≤i∧Y.length≤i*5000:=by obtain ⟨G,h1,h2,h3,h4,h5⟩:=HM.out;exact ⟨h4,h5⟩
    clear hGW hLe hok HGD HM HE CE
    go_upto_region 7 with fail
    have hd:Below z2.heap.size z2 z2.drew:=(Below.refl _ z2).drew
    replace ST:=hid (ST.out.keep hd)
    replace HU:=hid (HU.out.keep hd)
    obtain ⟨i8,E8⟩:=elem8
    obtain ⟨im,EM⟩:=elemMs
    clear hd MQ
    refine wp_region_noPanic ?_
    refine wp_region_held_drew (S:=fun w'=>w'.rangeAt b1 (o1+i*19) (mcells m.kind (ocells m.op) U1 N1)∧True) (by kernel_rfl) ⟨HRW.out _ ST.out.low,trivial⟩ (fun hS=>?_)
    refine Take.tk 0 35 hS ?_
    refine Take.tk 1 36 hS ?_
    refine Take.tk 3 38 hS ?_
    try simp only [Act.put,Take.nm]
    refine Take.tk 4 39 hS ?_
    refine Take.tk 5 40 hS ?_
    refine Take.tk 6 41 hS ?_
    try simp only [Act.put,Take.nm]
    refine tk_r 7 42 _ hS (fun _ h=>h.1) ?_ (mcells_len HP1.out.lo HP1.out.lu HP1.out.ln) rfl rfl rfl rfl (by kernel_rfl) rfl (fun _ _ _ h=>h)
    try simp only [Act.put,Take.nm]
    refine wpAnyH_ready (rs:=[2]) (by kernel_rfl) (by simp) ?_
    refine AllReadyH.cons (o:=_) (by rfl) (fun K1 hK=>?_) AllReadyH.nil
    rw [if_pos (by rfl)]
    refine wp_append_row (.tmp 35) (.tmp 36) rfl E8 w.heap.size _ Y.length (cells8 Y) rfl ST.out.ob _ EB.length (cells8 EB) rfl HU.out.1 (ones8 _) (by unfold maxLen;omega) (by omega) ST.out.low.size (Y ++ EB).length (List.length_append).symm ?_
    intro Ab' cb' W1 hown hg hat hb0
    have hS2:W1.rangeAt b1 (o1+i*19) (mcells m.kind (ocells m.op) U1 N1)∧True:=⟨HRW.out _ (ST.out.low.trans hb0),trivial⟩
    replace ST:=hid (ST.out.bytes HU.out.2 hown hg hat hb0)
    refine hK.out _ _ hS2 (fun hS3=>?_)
    clear hK K1 hS hS2 hown hg hat hb0 HU
    have hS:=hS3
    clear hS3
    try simp only [Act.put,Take.nm]
    refine wpAnyH_ready (rs:=[8]) (by kernel_rfl) (by simp) ?_
    refine AllReadyH.cons (o:=_) (by rfl) (fun K1 hK=>?_) AllReadyH.nil
    go_simp
    go_at_call 7
    refine (CF.out _ ST.out.low).mono ?_
    rintro e z ⟨U3,N3,rfl,hp,hm,hb⟩
    have P3:=hid hp
    have F3:=hid (msF_firm hp hm)
    have HO:=hid ST.out
    replace ST:=hid (ST.out.keep hb)
    have HZ:=hid (And.intro hb.size (fun j hj=>(HO.out.ob.lt j hj).2))
    have HZ2:=hid (fun j hj=>(HO.out.om.choose_spec.1.lt j hj).2)
    clear hp hm HO
    (try go_wp2_with fail)
    refine hK.out _ _ ⟨range_keep hS.1 hb,trivial⟩ (fun hS2=>?_)
    clear hK K1 hb hS
    have hS:=hS2
    clear hS2
    try simp only [Act.put,Take.nm]
    refine wpAnyH_ready (rs:=[9]) (by kernel_rfl) (by simp) ?_
    refine AllReadyH.cons (o:=_) (by rfl) (fun K1 hK=>?_) AllReadyH.nil
    go_simp
    go_at_call 13
    refine (ronly13 q U3 N3 _ P3.out).mono ?_
    rintro e z ⟨rfl,hb⟩
    have F4:=hid (F3.out.keep hb)
    replace ST:=hid (ST.out.keep hb)
    clear F3
    (try go_wp2_with fail)
    refine hK.out _ _ ⟨range_keep hS.1 hb,trivial⟩ (fun hS2=>?_)
    clear hK K1 hb hS
    have hS:=hS2
    clear hS2
    try simp only [Act.put,Take.nm]
    unfold onlyV
    refine wpAnyH_ready (rs:=[10]) (by kernel_rfl) (by simp) ?_
    refine AllReadyH.cons (o:=_) (by rfl) (fun K1 hK=>?_) AllReadyH.nil
    rw [if_pos (by rfl)]
    refine wp_build_one 45 rfl (only_parts P3.out) _ rfl rfl (fun hRow=>?_)
    have HXX:=hid ((Below.refl z.heap.size z).alloc (Nat.le_refl _) (.cells (mcells (onlyM q).kind (ocells (onlyM q).op) (if q.kind=2 then U3 else zU) (if q.kind=3 then N3 else zN)).toArray 36))
    refine hK.out _ _ ⟨range_keep hS.1 HXX.out,trivial⟩ (fun hS2=>?_)
    clear hK K1
    try simp only [Act.put,Take.nm]
    refine wpAnyH_ready (rs:=[11]) (by kernel_rfl) (by simp) ?_
    refine AllReadyH.cons (o:=_) (by rfl) (fun K1 hK=>?_) AllReadyH.nil
    rw [if_pos (by rfl)]
    obtain ⟨qq,hro,hrw⟩:=ST.out.om
    refine wp_append_row (.tmp 38) (.tmp 45) rfl EM w.heap.size _ X.length qq.flatten rfl (own_keep hro HXX.out) _ 1 _ rfl hRow ((only_parts P3.out).cells _) (by unfold maxLen;omega) (by omega) (Nat.le_trans ST.out.low.size HXX.out.size) (X.length+1) rfl ?_
    intro Ao' co' W2 hown hg hat hb2
    have ST2:=hid (ST.out.more HXX.out hrw (F4.out.on (fun j hj hn=>⟨⟨fun e=>by have:=HZ.out.2 j e;omega,fun e=>by have:=HZ2.out j e;omega⟩,rfl⟩) (Nat.le_refl _)) hro hown hg hat hb2)
    refine hK.out _ _ ⟨HRW.out _ ST2.out.low,trivial⟩ (fun hS3=>?_)
    clear hK K1 hro hrw hown hg hat hb2 hS hS2
    try simp only [Act.put,Take.nm]
    refine Take.tk 12 3 hS3 ?_
    refine Take.tk 13 4 hS3 ?_
    simp only [Act.put]
    refine wpAnyH_done (by kernel_rfl) ?_ _
    refine NoPanic.normal ?_
    go_wp2
    go_roundw
    case rel=>exact ⟨i+1,X ++ [onlyM q],Y ++ EB,Ab',Ao',cb',co',by omega,by omega,by go_num,by rw [List.length_append],by rw [List.length_append,List.length_singleton],HM2,ST2⟩
    case measure=>simp [intOf];omega
   ·have he:er=1∨er=6:=by
     have h:=HE.out
     split at h
     ·split at h
      ·exact .inr (by injection h)
      ·exact absurd ⟨by assumption,by omega⟩ hok
     ·exact .inl (by injection h)
    have y1:(er == 0)=false:=by rcases he with rfl | rfl <;> rfl
    have HM2:=hid (many_skip HM.out)
    clear he hok HE HGD CE HM
    go_wp2
    go_roundw
    case rel=>exact ⟨i+1,X,Y,Ab,Ao,cb,co,by omega,by omega,by go_num,rfl,rfl,HM2,ST⟩
    case measure=>simp [intOf];omega
  ·go_upto_region 3 with fail
   go_cut [21] from 14 to 20 (fun s21 wx=>s21=.bool false∧wx=wr)
   case first =>
    by_cases h1:l.length≤i
    ·have z1:¬ ((i:Int)<(l.length:Int)):=by omega
     go_wp2
     go_meet
     exact ⟨rfl,rfl⟩
    ·have z1:(i:Int)<(l.length:Int):=by omega
     have z2:¬ ((i:Int)<8):=by omega
     go_wp2
     go_meet
     exact ⟨rfl,rfl⟩
   case rest =>
   rename_i HKK
   refine HKK _ _ ?_
   clear HKK
   obtain ⟨rfl,rfl⟩:=hcut
   have hYX:X.length≤i∧Y.length≤i*5000:=by obtain ⟨G,h1,h2,h3,h4,h5⟩:=HM.out;exact ⟨h4,h5⟩
   have HRD:=hid (many_read HM.out)
   have CR:=hid (fun v W (h:U8s W v Y) (hb:Below w.heap.size w W)=>(AS.out.read v Y W h (by omega) hb).mono fun _ _ h2=>read_lit (HRD.out ▸ h2))
   unfold ReadL noN at CR
   dsimp only at CR
   have CL:=hid AS.out.lives
   have CS:=hid (fun (m:Ms) va vb W (h1:Msgs W va m) (h2:Msgs W vb m)=>show Calls Tryz.prog 11 #[va,vb] W (Tells (.bool true) W) from by
    have h3:=rsame13 va vb m m W h1 h2
    rw [show sameM m m=true from sameM_iff.2 rfl] at h3
    exact h3)
   have VY:=hid (U8s.of_own ST.out.ob ST.out.small)
   have HO:=hid (And.intro ST.out.low ST.out.om.msgl)
   clear HRD HM ST AS HV hgo hYX hi8 hil ST0
   go_wp2_with (go_at_call 18;refine (CR.out _ _ VY.out HO.out.1).mono ?_;rintro e x3 ⟨A3,c3,A4,k4,c4,rfl,hm,hN,hb⟩;have hb2:=box_low x3 (.int .i64 0) (.int .i64 0) (.slice A4 k4 c4);have B3:=hid (HO.out.1.trans (hb.mono HO.out.1.size));have ST:=hid (RwSt.mk (B3.out.trans (hb2.mono B3.out.size)) (hm.keep hb2) ((HO.out.2.keep hb).keep hb2));have X3:=hid (Box3.new x3 34 (.int .i64 0) (.int .i64 0) (.slice A4 k4 c4));clear hm hN hb hb2 B3 VY HO;obtain ⟨p0,p1,p2⟩:=X3.out.cells)
   clear X3 p0 p1 p2 CR
   go_loopw [11] (fun v11 wx=>∃ i:Nat,i≤X.length∧v11=.int .i64 i∧Hid (RwSt w X A3 Ao c3 co wx)) (fun v11 _=>X.length - (intOf v11).toNat)
   case atStart=>exact ⟨0,Nat.zero_le _,rfl,ST⟩
   case round =>
    obtain ⟨i,hi,rfl,ST⟩:=hrel
    by_cases hlt:X.length≤i
    ·have z1:¬ ((i:Int)<(X.length:Int)):=by omega
     clear hlt CS
     go_wp2_with (go_at_call 15;refine (CL.out _ ST.out.low).mono ?_;rintro e w7 ⟨rfl,hb⟩;have B7:=hid (ST.out.low.trans (hb.mono ST.out.low.size));clear hb)
     go_ret
     exact ⟨rfl,B7.out⟩
    ·have hlt2:i<X.length:=by omega
     have z1:(i:Int)<(X.length:Int):=by omega
     have hFi:=List.getElem?_eq_getElem hlt2
     generalize X[i]=m at hFi
     obtain ⟨b1,o1,U1,N1,rfl,hb1,hr1,hp1,hm1⟩:=ST.out.m1.at_ hFi
     obtain ⟨b2,o2,U2,N2,rfl,hb2,hr2,hp2,hm2⟩:=ST.out.m2.at_ hFi
     have HR:=hid (And.intro hr1 hr2)
     have HM:=hid (And.intro hm1 hm2)
     have HP:=hid (And.intro hp1 hp2)
     have hFl:X.length≤9223372036854775807:=by
      obtain ⟨_,_,_,h1,h2⟩:=ST.out.m1.form
      omega
     clear hr1 hr2 hm1 hm2 hp1 hp2 hlt hFi
     go_upto_region 14 with fail
     have hd:Below wr.heap.size wr wr.drew:=(Below.refl _ wr).drew
     refine wp_region_noPanic ?_
     refine wp_region_held_drew (S:=fun w'=>w'.rangeAt b1 (o1+i*19) (mcells m.kind (ocells m.op) U1 N1)∧w'.rangeAt b2 (o2+i*19) (mcells m.kind (ocells m.op) U2 N2)) (by kernel_rfl) ⟨range_keep HR.out.1 hd,range_keep HR.out.2 hd⟩ (fun hS=>?_)
     refine Take.tk 0 75 hS ?_
     refine Take.tk 1 76 hS ?_
     refine Take.tk 2 77 hS ?_
     try simp only [Act.put,Take.nm]
     refine tk_r 3 78 _ hS (fun _ h=>h.1) ?_ (mcells_len HP.out.1.lo HP.out.1.lu HP.out.1.ln) rfl rfl rfl rfl (by kernel_rfl) rfl (fun _ _ _ h=>h)
     refine Take.tk 4 79 hS ?_
     refine Take.tk 5 80 hS ?_
     try simp only [Act.put,Take.nm]
     refine Take.tk 6 81 hS ?_
     refine tk_r 7 82 _ hS (fun _ h=>h.2) ?_ (mcells_len HP.out.2.lo HP.out.2.lu HP.out.2.ln) rfl rfl rfl rfl (by kernel_rfl) rfl (fun _ _ _ h=>h)
     try simp only [Act.put,Take.nm]
     refine wpAnyH_ready (rs:=[8]) (by kernel_rfl) (by simp) ?_
     refine AllReadyH.cons (o:=_) (by rfl) (fun K1 hK=>?_) AllReadyH.nil
     rw [if_pos (by rfl)]
     go_simp
     go_at_call 11
     refine (CS.out m _ _ _ (HM.out.1.keep hd) (HM.out.2.keep hd)).mono ?_
     rintro e w6 ⟨rfl,hb⟩
     replace ST:=hid ((ST.out.keep hd).keep hb)
     (try go_wp2_with fail)
     refine hK.out _ _ ⟨range_keep hS.1 hb,range_keep hS.2 hb⟩ (fun hS2=>?_)
     clear hK K1 hS hb hd HR HM
     try simp only [Act.put,Take.nm]
     refine Take.tk 9 84 hS2 ?_
     try simp only [Act.put,Take.nm]
     refine wpAnyH_done (by kernel_rfl) ?_ _
     refine NoPanic.normal ?_
     go_wp2
     go_roundw
     case rel=>exact ⟨i+1,by omega,by go_num,ST⟩
     case measure=>simp [intOf];omega
end Msg
end Go.Proofs.YtjfmompgkkdliaaGreatDoor
