/- Part of the proof. -/
import Derived.Test.YtjfmompgkkdliaaGreatDoorH04
import Derived.Test.YtjfmompgkkdliaaGreatDoorH16
import Derived.Deep.RegionHeld3
import Derived.Deep.DeepCutAuto
open Go.Lib (hid)
set_option maxRecDepth 100000
set_option maxHeartbeats 40000000
namespace Go.Proofs.YtjfmompgkkdliaaGreatDoor
namespace Frm
open Go.RowKit Mem Oct Att
open Go.Lib (hid)
structure PcSt (w:World) (P:List Pc) (A:Option Addr) (cp:Nat) (W:World):Prop where
 box:Box3 W w.heap.size 34 (.int .i64 0) (.int .i64 0) (.slice none 0 0)
 low:Below w.heap.size w W
 own:OwnFrms 89 (w.heap.size+1) W (.slice A P.length cp) P
theorem PcSt.keep {w W W2:World} {P:List Pc} {A:Option Addr} {cp:Nat} (h:PcSt w P A cp W) (hb:Below W.heap.size W W2):PcSt w P A cp W2 :=
 ⟨h.box.keep hb,h.low.trans (hb.mono h.low.size),h.own.keep hb⟩
def PiecesF (b:List Nat) (w:World) (e:Ending) (w':World):Prop :=
 ∃ A c A2 k2 c2,e=.returned (.tuple #[.slice A (pcs b).1.length c,.int .i64 ((pcs b).2.1:Nat),.agg #[.int .i64 (pcs b).2.2.code,.int .i64 (pcs b).2.2.sub,.slice A2 k2 c2]]) ∧
  Frms w' (.slice A (pcs b).1.length c) (pcs b).1∧U8s w' (.slice A2 k2 c2) (pcs b).2.2.data∧Below w.heap.size w w'
def Rest (b:List Nat) (k:Nat) (P:List Pc):Prop:=pcs b=(P ++ (pcs (b.drop k)).1,k+(pcs (b.drop k)).2.1,(pcs (b.drop k)).2.2)
theorem rest_start (b:List Nat):Rest b 0 []:=by simp [Rest]
theorem rest_short {b:List Nat} {k:Nat} {P:List Pc} (h:Rest b k P) (hl:b.length<k+19):pcs b=(P,k,noneF):=by
 rw [h,pcs_step (b.drop k),if_pos (by rw [List.length_drop];omega)];simp
theorem rest_bad {b:List Nat} {k:Nat} {P:List Pc} (h:Rest b k P) (hl:k+19≤b.length) (hb:(headH (b.drop k)).code≠0):pcs b=(P,k,headH (b.drop k)):=by
 rw [h,pcs_step (b.drop k),if_neg (by rw [List.length_drop];omega),if_pos hb];simp
theorem rest_wait {b:List Nat} {k:Nat} {P:List Pc} (h:Rest b k P) (hl:k+19≤b.length) (hb:(headH (b.drop k)).code=0) (hn:b.length<k+lenH (b.drop k)):pcs b=(P,k,noneF):=by
 rw [h,pcs_step (b.drop k),if_neg (by rw [List.length_drop];omega),if_neg (by rw [hb];simp),if_pos (by rw [List.length_drop];omega)];simp
theorem rest_more {b:List Nat} {k:Nat} {P:List Pc} (h:Rest b k P) (hl:k+19≤b.length) (hb:(headH (b.drop k)).code=0) (hn:k+lenH (b.drop k)≤b.length):Rest b (k+lenH (b.drop k)) (P ++ [(typH (b.drop k),((b.drop k).take (lenH (b.drop k))).drop 19)]):=by
 unfold Rest
 rw [h,pcs_step (b.drop k),if_neg (by rw [List.length_drop];omega),if_neg (by rw [hb];simp),if_neg (by rw [List.length_drop];omega)]
 simp [List.drop_drop,Nat.add_assoc]
theorem head_cut {b:List Nat} (h:19≤b.length):headH (b.take 19)=headH b:=by
 have h1:=(headH_front (b:=b.take 19) (b.drop 19) (by rw [List.length_take];omega)).1
 rw [List.take_append_drop] at h1
 exact h1.symm
theorem frms_off {W W':World} {t:TypeId} {base B:Nat} {v:Value} {P:List Pc} (h:OwnFrms t base W v P) (hB:∀ i n,W.cell? ⟨B,i,none⟩≠some (.int .u8 n)) (hb:B<base) (hk:∀ k,k≠B→W'.heap[k]?=W.heap[k]?) (hs:W.heap.size≤W'.heap.size):OwnFrms t base W' v P:=by
 obtain ⟨q,h1,h2,h3⟩:=h
 exact ⟨q,own_same2 h1 (fun g hg=>hk g (by have:=(h1.lt g hg).1;omega)),⟨h2.1,fun k s x e1 e2=>u8_apart (h2.2 k s x e1 e2) hB hk hs⟩,h3⟩
theorem pieces_end {w W:World} {b:List Nat} {P:List Pc} {A A2:Option Addr} {cp k k2 c2:Nat} {code sub:Int} {d:List Nat} (h:PcSt w P A cp W) (he:pcs b=(P,k,⟨code,sub,d⟩)) (hU:U8s W (.slice A2 k2 c2) d) :
  PiecesF b w (.returned (.tuple #[.slice A P.length cp,.int .i64 (k:Nat),.agg #[.int .i64 code,.int .i64 sub,.slice A2 k2 c2]])) (three W w.heap.size (.int .i64 code) (.int .i64 sub) (.slice A2 k2 c2)):=by
 have ho:=three_off W w.heap.size (.int .i64 code) (.int .i64 sub) (.slice A2 k2 c2)
 have hn:=h.box.no8 (no8_i _) (no8_i _) (no8_s _ _ _)
 refine ⟨A,cp,A2,k2,c2,by rw [he],?_,?_,three_low h.low _ (Nat.le_refl _) _ _ _⟩
 ·rw [he];exact (frms_off h.own hn (Nat.lt_succ_self _) ho.1 ho.2).frms
 ·rw [he];exact u8_apart hU hn ho.1 ho.2
theorem elemPc:∃ i,IsElem Tryz.prog 86 89 2 32 i (.agg #[.int .i64 0,.slice none 0 0]):=IsElem.mk_ Tryz.underlying86 (by kernel_rfl) rfl (by decide)
theorem pc_more {w y X W':World} {P:List Pc} {A A':Option Addr} {cp c' T:Nat} {q:List Value} {xv:Value} {D:List Nat} (hst:PcSt w P A cp y) (hX:Below y.heap.size y X) (hrow:y.ownsRow (w.heap.size+1) 89 2 (.slice A P.length cp) P.length (frmCells P q)) (h2:Bods y P q) (h3:Apart (.slice A P.length cp) q) (hD:U8s w xv D)
  (hown:W'.ownsRow (w.heap.size+1) 89 2 (.slice A' (P.length+1) c') (P.length+1) (frmCells P q ++ [.int .i64 (T:Nat),xv])) (hg:X.grownBy W' (Value.slice A P.length cp).ownBlock)
  (hat:(Value.slice A' (P.length+1) c').ownBlock=(Value.slice A P.length cp).ownBlock∨(Value.slice A' (P.length+1) c').ownBlock=some X.heap.size) (hb:Below (w.heap.size+1) X W'):PcSt w (P ++ [(T,D)]) A' c' W':=by
 have hlow:=hst.low.trans (hX.mono hst.low.size)
 have hX2:=hlow.trans (hb.mono (Nat.le_succ _))
 have hb1:w.heap.size<X.heap.size:=Nat.lt_of_lt_of_le hst.box.lt hX.size
 refine ⟨(hst.box.keep hX).below (fun k hk=>hb.block k (by omega)),hX2,?_⟩
 rw [List.length_append,List.length_singleton]
 refine frms_grown hX h2 h3 (Bods.one (hD.keep hst.low)) (Apart.one fun b off m c e hm e2=>?_) hg hat hX.size rfl hown
 rw [e] at hD
 have k1:=u8_lt hD hm
 have k2:=(hrow.lt b e2).1
 omega
theorem u8_none (W:World) (A:Option Addr) {c:Nat} (hc:c≤maxLen):U8s W (.slice A 0 c) []:=⟨⟨rfl,A,c,rfl,Nat.zero_le _,hc,fun h=>absurd h (Nat.lt_irrefl _)⟩,small_nil⟩
theorem PiecesF.drew {b:List Nat} {w W:World} {e:Ending} (h:PiecesF b w e W):PiecesF b w e W.drew:=by
 obtain ⟨A,c,A2,k2,c2,h1,h2,h3,h4⟩:=h
 have hd:Below W.heap.size W W.drew:=(Below.refl _ _).drew
 exact ⟨A,c,A2,k2,c2,h1,h2.keep hd,h3.keep hd,h4.drew⟩
theorem pieces_any (v : Value) (b : List Nat) (w : World) (hv : U8s w v b) (hl : b.length ≤ 100000) : Calls Tryz.prog 52 #[v] w (PiecesF b w) := by
  obtain ⟨A0,c,rfl,hc,hc2⟩:=hv.form
  have HX:=hid (Box3.new w 34 (.int .i64 0) (.int .i64 0) (.slice none 0 0))
  have BB:=hid (box_low w (.int .i64 0) (.int .i64 0) (.slice none 0 0))
  have HV:=hid hv
  have S0 : PcSt w [] (some ⟨w.heap.size + 1, 0, none⟩) 0 ((w.alloc (.cells #[.int .i64 0, .int .i64 0, .slice none 0 0] 34)).alloc (.cells #[] 89)) := by
    have hs:(w.alloc (.cells #[.int .i64 0,.int .i64 0,.slice none 0 0] 34)).heap.size=w.heap.size+1:=by simp
    have h1:=(Below.refl (w.alloc (.cells #[.int .i64 0,.int .i64 0,.slice none 0 0] 34)).heap.size (w.alloc (.cells #[.int .i64 0,.int .i64 0,.slice none 0 0] 34))).alloc (Nat.le_refl _) (.cells #[] 89)
    have h2:=heap_alloc_new (w.alloc (.cells #[.int .i64 0,.int .i64 0,.slice none 0 0] 34)) (.cells #[] 89)
    rw [hs] at h2
    exact ⟨HX.out.keep h1,BB.out.trans (h1.mono BB.out.size),[],⟨rfl,.inr ⟨w.heap.size+1,0,#[],rfl,Nat.le_refl _,h2,Nat.le_refl _,by decide,rfl,rfl⟩⟩,Bods.nil _,fun x hx=>by cases hx⟩
  have HS:=hid S0
  clear S0 hv
  go_enter Tryz.func52,Tryz.ntmps52
  go_wp2
  go_loopw [5,6] (fun v5 v6 wx=>∃ (k:Nat) (P:List Pc) (A:Option Addr) (cp:Nat),k≤b.length∧P.length≤k∧v6=.int .i64 k∧v5=.slice A P.length cp∧Hid (Rest b k P)∧Hid (PcSt w P A cp wx)) (fun _ v6 _=>b.length - (intOf v6).toNat)
  case atStart=>exact ⟨0,[],_,0,Nat.zero_le _,Nat.le_refl _,rfl,rfl,hid (rest_start b),HS⟩
  case round =>
    obtain ⟨k,P,A,cp,hk,hPk,rfl,rfl,HR,ST⟩:=hrel
    obtain ⟨c0,c1,c2⟩:=ST.out.box.cells
    have ff:=ST.out.box.free
    by_cases hlt:b.length<k+19
    · have z1 : ¬ ((k : Int) + 19 ≤ (b.length : Int)) := by omega
      have E:=hid (rest_short HR.out hlt)
      clear hlt
      go_wp2
      (try simp only [Exit.inBlock,Exit.then])
      have r0:=(ST.out.box.set0 (.int .i64 0)).cells.1
      have r1:=((ST.out.box.set0 (.int .i64 0)).set1 (.int .i64 0)).cells.2.1
      have r2:=(ST.out.box.laid (.int .i64 0) (.int .i64 0) (.slice none 0 0)).cells.2.2
      unfold three at r2
      refine bodyPost_ret (v:=.tuple #[.slice A P.length cp,.int .i64 (k:Nat),.agg #[.int .i64 0,.int .i64 0,.slice none 0 0]]) (by simp [results,Tryz.results52,go_sem,r0,r1,r2]) rfl ?_
      exact pieces_end ST.out E.out (U8s.nil _)
    · have hk19 : k + 19 ≤ b.length := by omega
      obtain ⟨b0,off,x0,rfl,hb0,-,-,-⟩:=(HV.out).at_ (show 0<b.length by omega)
      have VV:=hid (HV.out.keep ST.out.low)
      have z1:(k:Int)+19≤(b.length:Int):=by omega
      have z2:(k:Int)≤(k:Int)+19:=by omega
      have z3:(k:Int)+19≤(c:Int):=by omega
      have z0:(0:Int)≤(k:Int):=by omega
      have hck:¬ c=k:=by omega
      have hm:=U8s.mid VV.out (i:=k) (k:=19) (by omega) (by omega)
      have CH:=hid (head_any b0 (off+k) (c - k) _ wr hm (by rw [List.length_take,List.length_drop];omega))
      rw [head_cut (b:=b.drop k) (by rw [List.length_drop];omega)] at CH
      unfold HeadF at CH
      have hcode:=headH_code (b.drop k)
      have HB:=hid (fun hb=>rest_bad HR.out hk19 hb)
      have HG:=hid (fun hb=>And.intro (fun hn=>rest_wait HR.out hk19 hb hn) (And.intro (fun hn=>rest_more HR.out hk19 hb hn) (headH_none hb)))
      clear hm hlt
      generalize headH (b.drop k)=H at CH hcode HB HG
      obtain ⟨cd,sb,dd⟩:=H
      dsimp only at CH hcode HB HG
      rcases hcode with rfl | rfl
      · obtain ⟨HW, HM, hnn, hn1, hn2, ht1, ht2⟩ := HG.out rfl
        obtain ⟨rfl,rfl⟩:sb=0∧dd=[]:=by simpa [noneF] using hnn
        have hlen:lenH (b.drop k)=val ((b.drop (k+16)).take 2):=by unfold lenH;rw [List.drop_drop]
        have CN:=hid (fun W (h:U8s W (.slice (some ⟨b0,off,none⟩) b.length c) b)=>num_any _ _ W (U8s.mid h (i:=k+16) (k:=2) (by omega) (by omega)) (by rw [List.length_take];omega))
        rw [← hlen] at CN
        have hTy : ∃ x, b[k + 18]? = some x ∧ typH (b.drop k) = x := by
          have h1:k+18<b.length:=by omega
          exact ⟨b[k+18],List.getElem?_eq_getElem h1,by unfold typH;rw [List.getElem?_drop,List.getElem?_eq_getElem h1];rfl⟩
        clear hnn HB HG hlen
        generalize lenH (b.drop k)=N at CN HW HM hn1 hn2
        have wo:IntKind.i64.wrap (N:Int)=(N:Int):=IntWalk.i64_in _ (by omega)
        have z4:(k:Int)+16≤(k:Int)+18:=by omega
        have z5:(k:Int)+18≤(c:Int):=by omega
        have z6:0≤(k:Int)+16:=by omega
        have hck2:¬ c=k+16:=by omega
        by_cases hn:b.length<k+N
        · have E := hid (HW hn)
          have z7:(b.length:Int)<(k:Int)+(N:Int):=by omega
          clear HM HW hTy ht1 ht2 hn
          go_wp2_with (first
            | (go_at_call 99;refine (CH.out).mono ?_;rintro e x ⟨A1,k1,d1,rfl,hU,hb⟩;have hb2:=box_low x (.int .i64 0) (.int .i64 0) (.slice A1 k1 d1);replace ST:=hid ((ST.out.keep hb).keep hb2);have U1:=hid (hU.keep hb2);have X1:=hid (Box3.new x 34 (.int .i64 0) (.int .i64 0) (.slice A1 k1 d1));replace VV:=hid ((VV.out.keep hb).keep hb2);clear hU hb hb2 c0 c1 c2 ff;obtain ⟨c0,c1,c2⟩:=ST.out.box.cells;have ff:=ST.out.box.free)
            | (go_at_call 95;have h:=VV.out;refine (CN.out _ h).mono ?_;rintro e y ⟨rfl,hb⟩;replace ST:=hid (ST.out.keep hb);replace VV:=hid (VV.out.keep hb);clear hb h c0 c1 c2 ff;obtain ⟨c0,c1,c2⟩:=ST.out.box.cells;have ff:=ST.out.box.free))
          (try simp only [Exit.inBlock,Exit.then])
          have r0:=(ST.out.box.set0 (.int .i64 0)).cells.1
          have r1:=((ST.out.box.set0 (.int .i64 0)).set1 (.int .i64 0)).cells.2.1
          have r2:=(ST.out.box.laid (.int .i64 0) (.int .i64 0) (.slice none 0 0)).cells.2.2
          unfold three at r2
          refine bodyPost_ret (v:=.tuple #[.slice A P.length cp,.int .i64 (k:Nat),.agg #[(.int .i64 0),(.int .i64 0),(.slice none 0 0)]]) (by simp [results,Tryz.results52,go_sem,r0,r1,r2]) rfl ?_
          exact pieces_end ST.out E.out (U8s.nil _)
        · have HE := hid (HM (by omega))
          have z7:(k:Int)+(N:Int)≤(b.length:Int):=by omega
          obtain ⟨Ty,hTy1,hTy2⟩:=hTy
          rw [hTy2] at HE ht1 ht2
          have z8:(k:Int)+18<(b.length:Int):=by omega
          have z9:0≤(k:Int)+18:=by omega
          have z10:(k:Int)+19≤(k:Int)+(N:Int):=by omega
          have z11:(k:Int)+(N:Int)≤(c:Int):=by omega
          have z12:0≤(k:Int)+19:=by omega
          have hbody:((b.drop k).take N).drop 19=(b.drop (k+19)).take (N - 19):=by rw [List.drop_take,List.drop_drop]
          rw [hbody] at HE
          clear HM HW hn hbody hTy2
          go_upto_region 9 with (first
            | (go_at_call 99;refine (CH.out).mono ?_;rintro e x ⟨A1,k1,d1,rfl,hU,hb⟩;have hb2:=box_low x (.int .i64 0) (.int .i64 0) (.slice A1 k1 d1);replace ST:=hid ((ST.out.keep hb).keep hb2);have U1:=hid (hU.keep hb2);have X1:=hid (Box3.new x 34 (.int .i64 0) (.int .i64 0) (.slice A1 k1 d1));replace VV:=hid ((VV.out.keep hb).keep hb2);clear hU hb hb2 c0 c1 c2 ff;obtain ⟨c0,c1,c2⟩:=ST.out.box.cells;have ff:=ST.out.box.free)
            | (go_at_call 95;have h:=VV.out;refine (CN.out _ h).mono ?_;rintro e y ⟨rfl,hb⟩;replace ST:=hid (ST.out.keep hb);replace VV:=hid (VV.out.keep hb);clear hb h c0 c1 c2 ff;obtain ⟨c0,c1,c2⟩:=ST.out.box.cells;have ff:=ST.out.box.free))
          clear c0 c1 c2 ff U1 X1
          obtain ⟨Ty',hT1,hT2,hcell⟩:=U8s.cell VV.out (show k+18<b.length by omega)
          obtain rfl:Ty=Ty':=by rw [hTy1] at hT1;exact Option.some.inj hT1
          have wt:IntKind.i64.wrap (Ty:Int)=(Ty:Int):=IntWalk.i64_in _ (by omega)
          have w18:IntKind.i64.wrap ((k:Int)+18)=(k:Int)+18:=IntWalk.i64_in _ (by omega)
          have w19:IntKind.i64.wrap ((k:Int)+19)=(k:Int)+19:=IntWalk.i64_in _ (by omega)
          have wN:IntKind.i64.wrap ((k:Int)+(N:Int))=(k:Int)+(N:Int):=IntWalk.i64_in _ (by omega)
          have t18:((k:Int)+18).toNat=k+18:=by omega
          have t19:((k:Int)+19).toNat=k+19:=by omega
          have tN:((k:Int)+(N:Int)).toNat=k+N:=by omega
          have tkN:k+N - (k+19)=N - 19:=by omega
          obtain ⟨i0,E0⟩:=elemPc
          have hcell2:=keepsT (Below.refl _ y).drew hcell
          have hmaxc:c≤maxLen:=hc2
          have hmid:=fun (h:k+19<c)=>U8s.mid (w:=w) HV.out (i:=k+19) (k:=N - 19) (by omega) h
          refine wp_region_noPanic ?_
          refine wp_region_held_drew (S:=fun w'=>w'.cell? ⟨b0,off+(k+18),none⟩=some (.int .u8 Ty)) (by kernel_rfl) hcell2 (fun hHeld=>?_)
          clear hcell hT1 hTy1 hHeld
          by_cases hck3:c=k+19
          focus
            have KP:=hid True.intro
            have hN:N=19:=by omega
            subst hN
            subst hck3
            have HD:=hid (show U8s w (.slice (some ⟨b0,off,none⟩) 0 0) ((b.drop (k+19)).take (19 - 19)) from u8_none w (some ⟨b0,off,none⟩) (c:=0) (by decide))
          rotate_left
          focus
            have KN:=hid True.intro
            have HD:=hid (hmid (by omega))
          all_goals
            clear hmid
            refine Take.tk 0 44 hcell2 ?_
            refine Take.tk 1 45 hcell2 ?_
            refine Take.tk 2 46 hcell2 ?_
            try simp only [Act.put,Take.nm]
            refine Take.tk 3 47 hcell2 ?_
            refine Take.tk 4 48 hcell2 ?_
            refine Take.tk 5 49 hcell2 ?_
            try simp only [Act.put,Take.nm]
            refine Take.tk 6 50 hcell2 ?_
            refine Take.tk 7 51 hcell2 ?_
            refine Take.tk 8 52 hcell2 ?_
            try simp only [Act.put,Take.nm]
            refine Take.tk 9 53 hcell2 ?_
            refine Take.tk 10 54 hcell2 ?_
            refine Take.tk 11 55 hcell2 ?_
            try simp only [Act.put,Take.nm]
            refine Take.tk 12 56 hcell2 ?_
            try simp only [Act.put,Take.nm]
            first
              | (have tok := KP.out
                 refine Take.tk (v:=.slice (some ⟨b0,off,none⟩) 0 0) 13 57 hcell2 ?_)
              | (have tok := KN.out
                 refine Take.tk (v:=.slice (some ⟨b0,off+(k+19),none⟩) (N - 19) (c - (k+19))) 13 57 hcell2 ?_)
            try simp only [Act.put,Take.nm]
            refine Take.tk 14 58 hcell2 ?_
            try simp only [Act.put,Take.nm]
            first
              | (have tok := KP.out
                 generalize (Value.slice (some ⟨b0,off,none⟩) 0 0)=xv at HD ⊢)
              | (have tok := KN.out
                 generalize (Value.slice (some ⟨b0,off+(k+19),none⟩) (N - 19) (c - (k+19)))=xv at HD ⊢)
            refine wpAnyH_ready (rs:=[15]) (by kernel_rfl) (by simp) ?_
            refine AllReadyH.cons (o:=_) (by rfl) (fun K1 hK=>?_) AllReadyH.nil
            go_simp
            have hX:Below y.heap.size y (y.drew.alloc (.cells #[.int .i64 (Ty:Nat),xv] 89)):=(Below.refl _ y).drew.alloc (Nat.le_refl _) _
            have HXX:=hid hX
            have hRow:=row_frm y.drew Ty xv 89
            refine hK.out _ _ (keepsT hX (by assumption)) (fun h1=>?_)
            clear hK K1
            try simp only [Act.put,Take.nm]
            refine wpAnyH_ready (rs:=[16]) (by kernel_rfl) (by simp) ?_
            refine AllReadyH.cons (o:=_) (by rfl) (fun K1 hK=>?_) AllReadyH.nil
            rw [if_pos (by rfl)]
            obtain ⟨q,hrow,hq,hap⟩:=ST.out.own
            have hones : ∀ z ∈ [Value.int .i64 (Ty : Nat), xv], z.oneCell' = true := fun z hz => by
              simp only [List.mem_cons,List.not_mem_nil,or_false] at hz
              rcases hz with rfl | rfl
              · rfl
              · exact one_u8s HD.out
            refine wp_append_row (.tmp 44) (.tmp 59) rfl E0 (w.heap.size+1) _ P.length (frmCells P q) rfl (own_keep hrow HXX.out) _ 1 [.int .i64 (Ty:Nat),xv] rfl hRow hones (by unfold maxLen;omega) (by omega) (Nat.le_trans ST.out.box.lt HXX.out.size) (P.length+1) rfl ?_
            intro A' c' W' hown hg hat hb
            have ST2:=hid (pc_more ST.out HXX.out hrow hq hap HD.out hown hg hat hb)
            have hc3 : W'.cell? ⟨b0, off + (k + 18), none⟩ = some (.int .u8 Ty) := by
              obtain ⟨x3,hx3,-,hc3⟩:=U8s.cell (HV.out.keep ST2.out.low) (show k+18<b.length by omega)
              obtain ⟨x4,hx4,-,hc4⟩:=U8s.cell (VV.out) (show k+18<b.length by omega)
              rw [hc3]
              have h5:=keepsT (Below.refl _ y).drew hc4
              rw [hcell2] at h5
              injection h5 with h5
              rw [h5,Option.some.inj (hx3.symm.trans hx4)]
            refine hK.out _ _ hc3 (fun h2=>?_)
            clear hK K1 hrow hq hap hown hg hat hb hones
            try simp only [Act.put,Take.nm]
            refine Take.tk 17 5 hc3 ?_
            refine wpAnyH_done (by kernel_rfl) ?_ _
            refine NoPanic.normal ?_
            go_wp2
            go_roundw
            case rel=>exact ⟨_,_,A',c',by omega,by rw [List.length_append,List.length_singleton];omega,by go_num,by rw [List.length_append,List.length_singleton],HE,ST2⟩
            case measure=>simp [intOf];omega
      · have E := hid (HB.out (by decide))
        clear HB HG
        go_upto_region 5 with (go_at_call 99;refine (CH.out).mono ?_;rintro e x ⟨A1,k1,d1,rfl,hU,hb⟩;have hb2:=box_low x (.int .i64 1) (.int .i64 sb) (.slice A1 k1 d1);replace ST:=hid ((ST.out.keep hb).keep hb2);have U1:=hid (hU.keep hb2);have X1:=hid (Box3.new x 34 (.int .i64 1) (.int .i64 sb) (.slice A1 k1 d1));replace VV:=hid ((VV.out.keep hb).keep hb2);clear hU hb hb2 c0 c1 c2 ff;obtain ⟨c0,c1,c2⟩:=ST.out.box.cells;have ff:=ST.out.box.free)
        obtain ⟨p0,p1,p2⟩:=X1.out.cells
        clear c0 c1 c2 ff
        obtain ⟨c0,c1,c2⟩:=ST.out.box.cells
        have ff:=ST.out.box.free
        generalize x.alloc (.cells #[.int .i64 1,.int .i64 sb,.slice A1 k1 d1] 34)=y at ST U1 X1 VV p0 p1 p2 c0 c1 c2 ff ⊢
        go_region
        go_wp2
        (try simp only [Exit.inBlock,Exit.then])
        have r0:=(ST.out.box.set0 (.int .i64 1)).cells.1
        have r1:=((ST.out.box.set0 (.int .i64 1)).set1 (.int .i64 sb)).cells.2.1
        have r2:=(ST.out.box.laid (.int .i64 1) (.int .i64 sb) (.slice A1 k1 d1)).cells.2.2
        unfold three at r2
        refine bodyPost_ret (v:=.tuple #[.slice A P.length cp,.int .i64 (k:Nat),.agg #[(.int .i64 1),(.int .i64 sb),(.slice A1 k1 d1)]]) (by simp [results,Tryz.results52,go_sem,r0,r1,r2]) rfl ?_
        exact (pieces_end ST.out E.out U1.out).drew
end Frm
end Go.Proofs.YtjfmompgkkdliaaGreatDoor
