/- Part of the proof. -/
import Derived.Test.YtjfmompgkkdliaaGreatDoorH16
import Derived.Test.YtjfmompgkkdliaaGreatDoorH02
import Derived.Test.YtjfmompgkkdliaaGreatDoorH01
import Derived.BigQuiet
import Derived.BigRegion
import Derived.RegionTactic
import Derived.Test.YtjfmompgkkdliaaGreatDoorH00
import Derived.Outline
open Go.Lib (hid)
set_option maxRecDepth 100000
set_option maxHeartbeats 40000000
namespace Go.Proofs.YtjfmompgkkdliaaGreatDoor
namespace Att
open Go.RowKit Mem Segm Rise
def roomy (p:List Piece) (i:Nat):Bool:=decide (0<i) && (match p[i - 1]? with | some r=>decide (r.1=2) && decide (r.2.length<255) | none=>false)
def okAt (p:List Piece) (i:Nat):Bool:=match p[i]? with
 | some s=>decide (1≤s.2.length) && decide (s.2.length≤255) && ((decide (s.1=1) && decide (setOf s.2=s.2)) || (decide (s.1=2) && !roomy p i))
 | none=>true
def okTo (p:List Piece):Nat→Bool
 | 0=>true
 | i+1=>okTo p i && okAt p i
def goodP (p:List Piece):Bool:=decide (p.length≤100) && okTo p p.length
theorem okTo_bad {p:List Piece} {i:Nat} (h:okAt p i=false):∀ {n:Nat},i<n→okTo p n=false
 | 0,hn=>by omega
 | n+1,hn=>by
  unfold okTo
  by_cases e:i=n
  ·subst e;rw [h];simp
  ·rw [okTo_bad h (by omega)];simp
theorem keepsW {W w1:World} (hb:Below W.heap.size W w1) {a:Addr} {v:Value} (h:W.cell? a=some v):w1.cell? a=some v :=
 (hb.cell (block_lt_of_cell h)).trans h
theorem refGood4 (v:Value) (p:List Piece) (w:World) (hv:Segs w v p) :
  Calls Tryz.prog 155 #[v] w (Tells (.bool (goodP p)) w):=by
 have HV:=hid hv
 obtain ⟨A,c,rfl,hlc,hc⟩:=hv.form
 have HB:=hid (Below.refl w.heap.size w)
 clear hv
 by_cases hp:p.length≤100
 case neg =>
  have e:goodP p=false:=by unfold goodP;rw [decide_eq_false hp];rfl
  rw [e]
  have z:(100:Int)<(p.length:Int):=by omega
  go_enter Tryz.func155,Tryz.ntmps155
  go_wp2
  go_ret
  exact ⟨rfl,HB.out⟩
 have eg:goodP p=okTo p p.length:=by unfold goodP;rw [decide_eq_true hp];rfl
 rw [eg]
 have hpd:decide ((100:Int)<(p.length:Int))=false:=decide_eq_false (by omega)
 clear eg
 go_enter Tryz.func155,Tryz.ntmps155
 go_wp2
 go_loopw [3] (fun v3 wr=>∃ i:Nat,i≤p.length∧v3=.int .i64 i∧Hid (okTo p i=true)∧Hid (Below w.heap.size w wr)) (fun v3 _=>p.length - (intOf v3).toNat)
 case atStart=>exact ⟨0,Nat.zero_le _,rfl,hid rfl,HB⟩
 case round =>
  obtain ⟨i,hi,rfl,hok,hbw⟩:=hrel
  by_cases hlt:i<p.length
  ·obtain ⟨s,hs⟩:∃ s,p[i]?=some s:=⟨_,List.getElem?_eq_getElem hlt⟩
   obtain ⟨b,off,x,rfl,hbl,k1,k2,hx⟩:=(HV.out.keep hbw.out).at_ hs
   obtain ⟨Ax,cx,rfl,hlx,hcx,-,-⟩:=hx.open_
   obtain ⟨ks,hks⟩:∃ ks,ks=s.1:=⟨_,rfl⟩
   obtain ⟨m,hm⟩:∃ m,m=s.2.length:=⟨_,rfl⟩
   rw [← hks] at k1
   rw [← hm] at k2
   have z0:(0:Int)≤(i:Int):=by omega
   have z1:(i:Int)<(p.length:Int):=by omega
   have HAT:Hid (okAt p i=(decide (1≤m) && decide (m≤255) && ((decide (ks=1) && decide (setOf s.2=s.2)) || (decide (ks=2) && !roomy p i)))):=hid (by unfold okAt;rw [hs,hm,hks])
   have HNX:Hid (okTo p (i+1)=okAt p i):=hid (by show (okTo p i && okAt p i)=_;rw [hok.out];rfl)
   by_cases g1:(m:Int)<1
   ·have HNO:Hid (okTo p p.length=false):=hid (okTo_bad (by rw [HAT.out,decide_eq_false (show ¬ 1≤m by omega)];rfl) hlt)
    clear hs hx hks hm HAT HNX
    go_wp2
    go_ret
    rw [HNO.out]
    exact ⟨rfl,hbw.out⟩
   ·have m1:1≤m:=by omega
    have d1:decide ((m:Int)<1)=false:=decide_eq_false g1
    by_cases g2:(255:Int)<m
    ·have HNO:Hid (okTo p p.length=false):=hid (okTo_bad (by rw [HAT.out,decide_eq_false (show ¬ m≤255 by omega)];simp) hlt)
     clear hs hx hks hm HAT HNX m1 g1
     go_wp2
     go_ret
     rw [HNO.out]
     exact ⟨rfl,hbw.out⟩
    ·have d2:decide ((255:Int)<(m:Int))=false:=decide_eq_false g2
     have hm3:m≤255:=by omega
     have HA2:Hid (okAt p i=((decide (ks=1) && decide (setOf s.2=s.2)) || (decide (ks=2) && !roomy p i))):=hid (by rw [HAT.out,decide_eq_true m1,decide_eq_true hm3];rfl)
     clear HAT m1 g1 g2
     by_cases hk1:ks=1
     ·have HA3:Hid (okAt p i=decide (setOf s.2=s.2)):=hid (by rw [HA2.out,hk1];simp)
      clear HA2
      subst hk1
      have hl1:s.2.length≤1000:=by omega
      rw [← hm] at hx
      have HX:=hid hx
      have HS:=hid (fun y (hy:y∈setOf s.2)=>hx.open_.choose_spec.choose_spec.2.2.2.1 y ((mem_setOf _ y).1 hy))
      have CS:=hid (fun (W:World) (h:Below wr.heap.size wr W)=>Nums.refSet_own _ s.2 W (HX.out.keep h) hl1)
      have CM:=hid (fun (va:Value) (W:World) (h:U32s W va (setOf s.2)) (hb:Below wr.heap.size wr W)=>Nums.refSame_any va _ _ s.2 W h (HX.out.keep hb))
      have HKC:=hid (fun (W:World) (h:Below wr.heap.size wr W)=>(⟨keepsW h k1,keepsW h k2⟩:W.cell? ⟨b,off+i*2,none⟩=some (.int .i64 1)∧W.cell? ⟨b,off+i*2+1,none⟩=some (.slice Ax m cx)))
      clear hs hx hks hm hl1
      cases hsm:decide (setOf s.2=s.2) with
      | true =>
       rw [hsm] at CM HA3
       go_wp2
       have BW:=hid ((Below.refl wr.heap.size wr).drew)
       clear k1 k2
       refine wp_region_noPanic ?_
       refine wp_region_held_drew (S:=(fun w'=>w'.cell? ⟨b,off+i*2,none⟩=some (.int .i64 1)∧w'.cell? ⟨b,off+i*2+1,none⟩=some (.slice Ax m cx))) (by kernel_rfl) (HKC.out _ BW.out) (fun hHeld=>?_)
       refine Take.tk 0 42 hHeld ?_
       refine Take.tk 1 43 hHeld ?_
       refine Take.tk 2 44 hHeld ?_
       try simp only [Act.put,Take.nm]
       refine Take.tk 3 45 hHeld ?_
       refine Take.tk 4 46 hHeld ?_
       refine Take.tk 5 47 hHeld ?_
       try simp only [Act.put,Take.nm]
       refine Take.tk 6 48 hHeld ?_
       refine Take.tk 7 49 hHeld ?_
       refine Take.tk 8 50 hHeld ?_
       try simp only [Act.put,Take.nm]
       refine Take.tk 9 51 hHeld ?_
       refine Take.tk 10 52 hHeld ?_
       refine Take.tk 11 53 hHeld ?_
       try simp only [Act.put,Take.nm]
       refine Take.tk 13 55 hHeld ?_
       refine Take.tk 14 56 hHeld ?_
       refine Take.tk 15 57 hHeld ?_
       try simp only [Act.put,Take.nm]
       refine Take.tk 16 58 hHeld ?_
       refine Take.tk 17 59 hHeld ?_
       refine wpAnyH_ready (rs:=[12]) (by kernel_rfl) (by simp) ?_
       refine AllReadyH.cons (o:=_) (by rfl) (fun K hK=>?_) AllReadyH.nil
       go_simp
       go_at_call 154;refine (CS.out _ BW.out).mono ?_;rintro e x ⟨v1,rfl,ho,hb⟩;have U:=hid (U32s.of_own ho HS.out);replace BW:=hid (BW.out.trans (hb.mono BW.out.size));clear ho hb
       (try go_wp2_with fail)
       refine hK.out _ _ (HKC.out _ BW.out) (fun hHeld1=>?_)
       clear hK K
       try simp only [Act.put,Take.nm]
       refine wpAnyH_ready (rs:=[18]) (by kernel_rfl) (by simp) ?_
       refine AllReadyH.cons (o:=_) (by rfl) (fun K hK=>?_) AllReadyH.nil
       go_simp
       go_at_call 121;refine (CM.out _ _ U.out BW.out).mono ?_;rintro e x ⟨rfl,hb⟩;replace BW:=hid (BW.out.trans (hb.mono BW.out.size));clear hb
       (try go_wp2_with fail)
       refine hK.out _ _ (HKC.out _ BW.out) (fun hHeld2=>?_)
       clear hK K
       try simp only [Act.put,Take.nm]
       refine Take.tk 19 61 hHeld2 ?_
       refine Take.tk 20 62 hHeld2 ?_
       refine Take.tk 21 63 hHeld2 ?_
       try simp only [Act.put,Take.nm]
       refine Take.tk 22 64 hHeld2 ?_
       refine Take.tk 23 65 hHeld2 ?_
       refine Take.tk 24 66 hHeld2 ?_
       try simp only [Act.put,Take.nm]
       refine Take.tk 25 67 hHeld2 ?_
       refine Take.tk 26 68 hHeld2 ?_
       refine Take.tk 27 69 hHeld2 ?_
       try simp only [Act.put,Take.nm]
       refine Take.tk 28 70 hHeld2 ?_
       refine Take.sk [(29,71),(30,72)] hHeld2 ?_
       try simp only [Take.fl,Act.put,Take.nm]
       refine Take.tk 31 73 hHeld2 ?_
       refine Take.tk 32 74 hHeld2 ?_
       refine Take.sk [(33,75),(34,76),(35,77),(36,78),(37,79),(38,80),(39,81)] hHeld2 ?_
       try simp only [Take.fl,Act.put,Take.nm]
       refine Take.tk 40 82 hHeld2 ?_
       refine Take.tk 41 83 hHeld2 ?_
       refine Take.sk [(42,84),(43,85),(44,86),(45,87),(46,88),(47,89),(48,90),(49,91)] hHeld2 ?_
       try simp only [Take.fl,Act.put,Take.nm]
       refine Take.tk 50 92 hHeld2 ?_
       refine Take.tk 51 93 hHeld2 ?_
       refine wpAnyH_done (by kernel_rfl) ?_ _
       refine NoPanic.normal ?_
       go_wp2
       go_roundw
       case rel=>exact ⟨i+1,by omega,by go_num,hid (by rw [HNX.out];exact HA3.out),hid (hbw.out.trans (BW.out.mono hbw.out.size))⟩
       case measure=>simp [intOf];omega
      | false =>
       rw [hsm] at CM HA3
       go_wp2
       have BW:=hid ((Below.refl wr.heap.size wr).drew)
       clear k1 k2
       refine wp_region_noPanic ?_
       refine wp_region_held_drew (S:=(fun w'=>w'.cell? ⟨b,off+i*2,none⟩=some (.int .i64 1)∧w'.cell? ⟨b,off+i*2+1,none⟩=some (.slice Ax m cx))) (by kernel_rfl) (HKC.out _ BW.out) (fun hHeld=>?_)
       refine Take.tk 0 42 hHeld ?_
       refine Take.tk 1 43 hHeld ?_
       refine Take.tk 2 44 hHeld ?_
       try simp only [Act.put,Take.nm]
       refine Take.tk 3 45 hHeld ?_
       refine Take.tk 4 46 hHeld ?_
       refine Take.tk 5 47 hHeld ?_
       try simp only [Act.put,Take.nm]
       refine Take.tk 6 48 hHeld ?_
       refine Take.tk 7 49 hHeld ?_
       refine Take.tk 8 50 hHeld ?_
       try simp only [Act.put,Take.nm]
       refine Take.tk 9 51 hHeld ?_
       refine Take.tk 10 52 hHeld ?_
       refine Take.tk 11 53 hHeld ?_
       try simp only [Act.put,Take.nm]
       refine Take.tk 13 55 hHeld ?_
       refine Take.tk 14 56 hHeld ?_
       refine Take.tk 15 57 hHeld ?_
       try simp only [Act.put,Take.nm]
       refine Take.tk 16 58 hHeld ?_
       refine Take.tk 17 59 hHeld ?_
       refine wpAnyH_ready (rs:=[12]) (by kernel_rfl) (by simp) ?_
       refine AllReadyH.cons (o:=_) (by rfl) (fun K hK=>?_) AllReadyH.nil
       go_simp
       go_at_call 154;refine (CS.out _ BW.out).mono ?_;rintro e x ⟨v1,rfl,ho,hb⟩;have U:=hid (U32s.of_own ho HS.out);replace BW:=hid (BW.out.trans (hb.mono BW.out.size));clear ho hb
       (try go_wp2_with fail)
       refine hK.out _ _ (HKC.out _ BW.out) (fun hHeld1=>?_)
       clear hK K
       try simp only [Act.put,Take.nm]
       refine wpAnyH_ready (rs:=[18]) (by kernel_rfl) (by simp) ?_
       refine AllReadyH.cons (o:=_) (by rfl) (fun K hK=>?_) AllReadyH.nil
       go_simp
       go_at_call 121;refine (CM.out _ _ U.out BW.out).mono ?_;rintro e x ⟨rfl,hb⟩;replace BW:=hid (BW.out.trans (hb.mono BW.out.size));clear hb
       (try go_wp2_with fail)
       refine hK.out _ _ (HKC.out _ BW.out) (fun hHeld2=>?_)
       clear hK K
       try simp only [Act.put,Take.nm]
       refine Take.tk 19 61 hHeld2 ?_
       refine Take.tk 20 62 hHeld2 ?_
       refine Take.tk 21 63 hHeld2 ?_
       try simp only [Act.put,Take.nm]
       refine Take.sk [(22,64),(23,65),(24,66),(25,67),(26,68),(27,69),(28,70),(29,71),(30,72),(31,73),(32,74),(33,75),(34,76),(35,77),(36,78),(37,79),(38,80),(39,81),(40,82),(41,83),(42,84),(43,85),(44,86),(45,87),(46,88),(47,89),(48,90),(49,91),(50,92)] hHeld2 ?_
       try simp only [Take.fl,Act.put,Take.nm]
       refine Take.tk 51 93 hHeld2 ?_
       refine wpAnyH_done (by kernel_rfl) ?_ _
       refine NoPanic.normal ?_
       have HNO:Hid (okTo p p.length=false):=hid (okTo_bad HA3.out hlt)
       go_wp2
       go_ret
       rw [HNO.out]
       exact ⟨rfl,hbw.out.trans (BW.out.mono hbw.out.size)⟩
     ·by_cases hk2:ks=2
      ·have HA3:Hid (okAt p i=!roomy p i):=hid (by rw [HA2.out,hk2];simp)
       subst hk2
       clear HA2 hx hks hm
       by_cases hi0:i=0
       ·have HOK:Hid (okAt p i=true):=hid (by rw [HA3.out];unfold roomy;rw [decide_eq_false (show ¬ 0<i by omega)];rfl)
        subst hi0
        simp only [Nat.zero_mul,Nat.add_zero] at k1 k2
        clear hs HA3
        go_wp2
        go_quiet (fail)
        have BW:=hid (Mem.below_drewN wr nq)
        go_wp2
        go_roundw
        case rel=>exact ⟨0+1,by omega,by go_num,hid (by rw [HNX.out];exact HOK.out),hid (hbw.out.trans (BW.out.mono hbw.out.size))⟩
        case measure=>simp [intOf];omega
       ·have hip:0<i:=by omega
        obtain ⟨r,hr⟩:∃ r,p[i - 1]?=some r:=⟨_,List.getElem?_eq_getElem (by omega)⟩
        obtain ⟨b',off',y,e9,hbl',k3,k4,hy⟩:=(HV.out.keep hbw.out).at_ hr
        injection e9 with e9
        injection e9 with e9 e10
        subst e9 e10
        obtain ⟨Ay,cy,rfl,hly,hcy,-,-⟩:=hy.open_
        obtain ⟨kr,hkr⟩:∃ kr,kr=r.1:=⟨_,rfl⟩
        obtain ⟨mr,hmr⟩:∃ mr,mr=r.2.length:=⟨_,rfl⟩
        have HR:Hid (roomy p i=(decide (kr=2) && decide (mr<255))):=hid (by unfold roomy;rw [decide_eq_true hip,hr,hkr,hmr];rfl)
        rw [← hkr] at k3
        rw [← hmr] at k4
        have y0:(0:Int)<(i:Int):=by omega
        have y1:IntKind.i64.wrap ((i:Int) - 1)=((i - 1:Nat):Int):=by rw [IntKind.wrap_i64];omega
        have y2:(0:Int)≤((i - 1:Nat):Int):=by omega
        have y3:((i - 1:Nat):Int)<(p.length:Int):=by omega
        have y4:((i - 1:Nat):Int).toNat=i - 1:=by omega
        clear hy hs hr hkr hmr
        by_cases hk:kr=2
        ·subst hk
         by_cases hm255:(mr:Int)<255
         ·have HNO:Hid (okTo p p.length=false):=hid (okTo_bad (by rw [HA3.out,HR.out,decide_eq_true (show mr<255 by omega)];rfl) hlt)
          clear HA3 HR HNX
          go_wp2
          go_quiet (fail)
          have BW:=hid (Mem.below_drewN wr nq)
          go_wp2
          go_ret
          rw [HNO.out]
          exact ⟨rfl,hbw.out.trans (BW.out.mono hbw.out.size)⟩
         ·have d5:decide ((mr:Int)<255)=false:=decide_eq_false hm255
          have HOK:Hid (okAt p i=true):=hid (by rw [HA3.out,HR.out,decide_eq_false (show ¬ mr<255 by omega)];rfl)
          clear HA3 HR
          go_wp2
          go_quiet (fail)
          have BW:=hid (Mem.below_drewN wr nq)
          go_wp2
          go_roundw
          case rel=>exact ⟨i+1,by omega,by go_num,hid (by rw [HNX.out];exact HOK.out),hid (hbw.out.trans (BW.out.mono hbw.out.size))⟩
          case measure=>simp [intOf];omega
        ·have d6:decide (kr=2)=false:=decide_eq_false hk
         have d7:(kr == 2)=false:=by simp [hk]
         have HOK:Hid (okAt p i=true):=hid (by rw [HA3.out,HR.out,d6];rfl)
         clear HA3 HR
         go_wp2
         go_quiet (fail)
         have BW:=hid (Mem.below_drewN wr nq)
         go_wp2
         go_roundw
         case rel=>exact ⟨i+1,by omega,by go_num,hid (by rw [HNX.out];exact HOK.out),hid (hbw.out.trans (BW.out.mono hbw.out.size))⟩
         case measure=>simp [intOf];omega
      ·have HNO:Hid (okTo p p.length=false):=hid (okTo_bad (by rw [HA2.out,decide_eq_false hk1,decide_eq_false hk2];rfl) hlt)
       have d3:(ks != 1)=true:=by simp [hk1]
       have d4:(ks != 2)=true:=by simp [hk2]
       clear hs hx hks hm HA2 HNX
       go_wp2
       go_ret
       rw [HNO.out]
       exact ⟨rfl,hbw.out⟩
  ·obtain rfl:i=p.length:=by omega
   have z1:decide ((p.length:Int)<(p.length:Int))=false:=by simp
   go_wp2
   go_ret
   rw [hok.out]
   exact ⟨rfl,hbw.out⟩
end Att
namespace Att
open Go.RowKit Mem Segm Rise
def lens (p:List Piece):Nat:=(p.map fun s=>s.2.length).sum
theorem lens_take {p:List Piece} {k:Nat} {s:Piece} (h:p[k]?=some s):lens (p.take (k+1))=lens (p.take k)+s.2.length:=by
 rw [List.take_add_one,h,Option.toList_some];simp [lens]
theorem lens_take_le (p:List Piece) (k:Nat):lens (p.take k)≤lens p:=by
 conv=>rhs;rw [← List.take_append_drop k p]
 simp only [lens,List.map_append,List.sum_append]
 omega
def waysP (p:List Piece):Bool:=goodP p && decide (lens p≤2000)
theorem refWays8 (v:Value) (p:List Piece) (w:World) (hv:Segs w v p) (hl:lens p≤100000) :
  Calls Tryz.prog 123 #[v] w (Tells (.bool (waysP p)) w):=by
 have HV:=hid hv
 obtain ⟨A,c,rfl,hlc,hc⟩:=hv.form
 have CG:=hid (fun (W:World) (h:Below w.heap.size w W)=>refGood4 _ p W (HV.out.keep h))
 have HL:=hid hl
 clear hv hl
 go_enter Tryz.func123,Tryz.ntmps123
 go_wp2
 go_loopw [3,4] (fun v3 v4 wr=>∃ i:Nat,i≤p.length∧v3=.int .i64 (lens (p.take i):Nat)∧v4=.int .i64 i∧wr=w) (fun _ v4 _=>p.length - (intOf v4).toNat)
 case atStart=>exact ⟨0,Nat.zero_le _,rfl,rfl,rfl⟩
 case round =>
  obtain ⟨i,hi,rfl,rfl,rfl⟩:=hrel
  by_cases hlt:i<p.length
  ·obtain ⟨s,hs⟩:∃ s,p[i]?=some s:=⟨_,List.getElem?_eq_getElem hlt⟩
   obtain ⟨b,off,x,rfl,hbl,k1,k2,hx⟩:=HV.out.at_ hs
   obtain ⟨Ax,cx,rfl,hlx,hcx,-,-⟩:=hx.open_
   have HE:=hid (lens_take hs)
   have HM:=hid (Nat.le_trans (lens_take_le p (i+1)) HL.out)
   obtain ⟨m,hm⟩:∃ m,m=s.2.length:=⟨_,rfl⟩
   rw [← hm] at k2 HE
   have z0:(0:Int)≤(i:Int):=by omega
   have z1:(i:Int)<(p.length:Int):=by omega
   have y1:wrap64 ((lens (p.take i):Nat)+(m:Int))=((lens (p.take (i+1)):Nat):Int):=by
    have e:=HE.out
    have e2:=HM.out
    rw [e] at e2 ⊢
    unfold wrap64
    omega
   clear hx hs hm k1
   go_wp2
   go_roundw
   case rel=>exact ⟨i+1,by omega,by first | exact congrArg _ y1 | (rw [y1]) | go_num,by go_num,by first | rfl | trivial⟩
   case measure=>simp [intOf];omega
  ·obtain rfl:i=p.length:=by omega
   have z1:decide ((p.length:Int)<(p.length:Int))=false:=by simp
   have e:lens (p.take p.length)=lens p:=by rw [List.take_length]
   rw [e]
   cases hg:goodP p with
   | false =>
    rw [hg] at CG
    have HW:=hid (show waysP p=false by unfold waysP;rw [hg];rfl)
    go_wp2_with (go_at_call 155;refine (CG.out _ (Below.refl _ _)).mono ?_;rintro e x ⟨rfl,hb⟩)
    go_ret
    rw [HW.out]
    exact ⟨rfl,hb⟩
   | true =>
    rw [hg] at CG
    have HW:=hid (show waysP p=decide (lens p≤2000) by unfold waysP;rw [hg];rfl)
    have HD:=hid (show decide ((lens p:Int)≤2000)=decide (lens p≤2000) by
     by_cases h:lens p≤2000
     ·rw [decide_eq_true h,decide_eq_true (by omega)]
     ·rw [decide_eq_false h,decide_eq_false (by omega)])
    go_wp2_with (go_at_call 155;refine (CG.out _ (Below.refl _ _)).mono ?_;rintro e x ⟨rfl,hb⟩)
    go_ret
    exact ⟨by rw [HW.out];exact congrArg (fun b=>Ending.returned (Value.bool b)) HD.out,hb⟩
end Att
namespace Att
open Segm Rise
theorem normS_put (p:List Piece) (n:Nat):normS (putS p n)=putS (normS p) n:=by
 rcases List.eq_nil_or_concat p with rfl | ⟨f,s,rfl⟩
 ·rfl
 ·rw [List.concat_eq_append] at *
  by_cases h:s.1=2∧s.2.length<255
  ·rw [putS_room n h.1 h.2,normS_snoc,normS_snoc]
   unfold normOne
   rw [if_pos (show ((2:Int),s.2 ++ [n]).1=2 from rfl),if_pos h.1]
   exact putsS_snoc _ _ _
  ·rw [putS_full n h,normS_snoc]
   unfold normOne
   rw [if_pos (show ((2:Int),[n]).1=2 from rfl)]
   rfl
theorem normS_puts (p:List Piece):∀ (l:List Nat),normS (putsS p l)=putsS (normS p) l:=by
 intro l
 induction l generalizing p with
 | nil=>rfl
 | cons n l ih =>
  show normS (putsS (putS p n) l)=putsS (putS (normS p) n) l
  rw [ih,normS_put]
theorem setOf_ne {l:List Nat} (h:l≠[]):setOf l≠[]:=fun e=>by
 cases l with
 | nil=>exact h rfl
 | cons x l =>
  have:=(mem_setOf (x :: l) x).2 (by simp)
  rw [e] at this
  simp at this
theorem setOf_twice (l:List Nat):setOf (setOf l)=setOf l:=(setOf_iff _).2 (rising_setOf l)
theorem normS_one (p:List Piece) (s:Piece):normS (normOne p s)=normOne (normS p) s:=by
 unfold normOne
 by_cases h:s.1=2
 ·rw [if_pos h,if_pos h,normS_puts]
 ·rw [if_neg h,if_neg h]
  by_cases h1:s.1=1∧s.2≠[]
  ·rw [if_pos h1,if_pos h1,normS_snoc]
   unfold normOne
   rw [if_neg (show ¬ ((1:Int),setOf s.2).1=2 by simp),if_pos ⟨rfl,setOf_ne h1.2⟩,setOf_twice]
  ·rw [if_neg h1,if_neg h1]
theorem normS_twice (p:List Piece):normS (normS p)=normS p:=by
 induction hn:p.length generalizing p with
 | zero=>rw [List.length_eq_zero_iff.1 hn];rfl
 | succ n ih =>
  rcases List.eq_nil_or_concat p with rfl | ⟨f,s,rfl⟩
  ·rfl
  ·rw [List.concat_eq_append] at *
   rw [normS_snoc,normS_one,ih f (by simpa using hn)]
theorem lens_append (p q:List Piece):lens (p ++ q)=lens p+lens q:=by simp [lens]
theorem lens_put (p:List Piece) (n:Nat):lens (putS p n)=lens p+1:=by
 rcases List.eq_nil_or_concat p with rfl | ⟨f,s,rfl⟩
 ·rfl
 ·rw [List.concat_eq_append] at *
  by_cases h:s.1=2∧s.2.length<255
  ·rw [putS_room n h.1 h.2,lens_append,lens_append]
   simp [lens];omega
  ·rw [putS_full n h,lens_append]
   simp [lens]
theorem lens_puts:∀ (l:List Nat) (p:List Piece),lens (putsS p l)=lens p+l.length
 | [],p=>rfl
 | n :: l,p=>by
  show lens (putsS (putS p n) l)=_
  rw [lens_puts l,lens_put,List.length_cons]
  omega
theorem put_len_le (l:List Nat) (n:Nat):(put l n).length≤l.length+1:=by
 unfold put
 split
 ·omega
 ·have e:=congrArg List.length (List.takeWhile_append_dropWhile (p:=fun x=>decide (x<n)) (l:=l))
  rw [List.length_append] at e
  rw [List.length_append,List.length_cons]
  omega
theorem setOf_len (l:List Nat):(setOf l).length≤l.length:=by
 induction hn:l.length generalizing l with
 | zero=>rw [List.length_eq_zero_iff.1 hn];simp [setOf]
 | succ n ih =>
  rcases List.eq_nil_or_concat l with rfl | ⟨f,s,rfl⟩
  ·simp at hn
  ·rw [List.concat_eq_append] at *
   rw [setOf_snoc]
   have h1:=put_len_le (setOf f) s
   have h2:f.length=n:=by simpa using hn
   have h3:=ih f h2
   omega
theorem lens_norm (p:List Piece):lens (normS p)≤lens p:=by
 induction hn:p.length generalizing p with
 | zero=>rw [List.length_eq_zero_iff.1 hn];exact Nat.le_refl _
 | succ n ih =>
  rcases List.eq_nil_or_concat p with rfl | ⟨f,s,rfl⟩
  ·exact Nat.le_refl _
  ·rw [List.concat_eq_append] at *
   have h1:=ih f (by simpa using hn)
   rw [normS_snoc,lens_append]
   have e:lens [s]=s.2.length:=by simp [lens]
   rw [e]
   unfold normOne
   split
   ·rw [lens_puts];omega
   ·split
    ·rw [lens_append]
     have h2:=setOf_len s.2
     have e2:lens [((1:Int),setOf s.2)]=(setOf s.2).length:=by simp [lens]
     rw [e2];omega
    ·omega
end Att
namespace Att
open Go.RowKit Mem Rise Segm
theorem okTo_next {p:List Piece} {i:Nat} (h:okTo p i=true) (h2:okAt p i=true):okTo p (i+1)=true:=by unfold okTo;rw [h,h2];rfl
theorem pgood_any (v:Value) (p:List Piece) (w:World) (hv:Segs w v p) :
  Calls Tryz.prog 114 #[v] w (Tells (.bool (goodP p)) w):=by
 have HV:=hid hv
 obtain ⟨A,c,rfl,hlc,hc⟩:=hv.form
 have HB:=hid (Below.refl w.heap.size w)
 clear hv
 by_cases hp:p.length≤100
 case neg =>
  have e:goodP p=false:=by unfold goodP;rw [decide_eq_false hp];rfl
  rw [e]
  have z:(100:Int)<(p.length:Int):=by omega
  go_enter Tryz.func114,Tryz.ntmps114
  go_wp2
  go_ret
  exact ⟨rfl,HB.out⟩
 have eg:goodP p=okTo p p.length:=by unfold goodP;rw [decide_eq_true hp];rfl
 rw [eg]
 have hpd:decide ((100:Int)<(p.length:Int))=false:=decide_eq_false (by omega)
 clear eg
 go_enter Tryz.func114,Tryz.ntmps114
 go_wp2
 go_loopw [10] (fun v10 wr=>∃ i:Nat,i≤p.length∧v10=.int .i64 i∧Hid (okTo p i=true)∧Hid (Below w.heap.size w wr)) (fun v10 _=>p.length - (intOf v10).toNat)
 case atStart=>exact ⟨0,Nat.zero_le _,rfl,hid rfl,HB⟩
 case round =>
  obtain ⟨i,hi,rfl,hok,hbw⟩:=hrel
  by_cases hlt:i<p.length
  ·obtain ⟨s,hs⟩:∃ s,p[i]?=some s:=⟨_,List.getElem?_eq_getElem hlt⟩
   obtain ⟨b,off,x,rfl,hbl,j1,j2,hx⟩:=(HV.out.keep hbw.out).at_ hs
   obtain ⟨Ax,cx,rfl,hlx,hcx,-,-⟩:=hx.open_
   obtain ⟨ks,hks⟩:∃ ks,ks=s.1:=⟨_,rfl⟩
   obtain ⟨m,hm⟩:∃ m,m=s.2.length:=⟨_,rfl⟩
   rw [← hks] at j1
   rw [← hm] at j2 hx
   have z0:(0:Int)≤(i:Int):=by omega
   have z1:(i:Int)<(p.length:Int):=by omega
   have HAT:Hid (okAt p i=(decide (1≤m) && decide (m≤255) && ((decide (ks=1) && decide (setOf s.2=s.2)) || (decide (ks=2) && !roomy p i)))):=hid (by unfold okAt;rw [hs,hm,hks])
   have HNX:=hid (fun h2=>okTo_next hok.out (show okAt p i=true from h2))
   have HNO:=hid (fun (h2:okAt p i=false)=>okTo_bad h2 hlt)
   have hbA:Below w.heap.size w (wr.alloc (.cells #[.int .i64 ks,.slice Ax m cx] 108)):=hbw.out.alloc hbw.out.size _
   have HA:=hid hbA
   by_cases g0:m=0
   ·have HF:=hid (HNO.out (by rw [HAT.out,decide_eq_false (show ¬ 1≤m by omega)];rfl))
    subst g0
    clear hs hx hks hm HAT HNX HNO hbA
    go_wp2
    go_ret
    rw [HF.out]
    exact ⟨rfl,HA.out⟩
   by_cases g1:255<m
   ·have d1:decide ((m:Int)=0)=false:=by simp;omega
    have d2:(255:Int)<(m:Int):=by omega
    have d3:((m:Int) == 0)=false:=by simp;omega
    have HF:=hid (HNO.out (by rw [HAT.out,decide_eq_false (show ¬ m≤255 by omega)];simp))
    clear hs hx hks hm HAT HNX HNO hbA
    go_wp2
    go_ret
    rw [HF.out]
    exact ⟨rfl,HA.out⟩
   have d1:decide ((m:Int)=0)=false:=by simp;omega
   have d3:((m:Int) == 0)=false:=by simp;omega
   have d2:decide ((255:Int)<(m:Int))=false:=by simp;omega
   have HA2:Hid (okAt p i=((decide (ks=1) && decide (setOf s.2=s.2)) || (decide (ks=2) && !roomy p i))):=hid (by rw [HAT.out,decide_eq_true (show 1≤m by omega),decide_eq_true (show m≤255 by omega)];rfl)
   clear HAT
   by_cases hk1:ks=1
   ·have HA3:Hid (okAt p i=decide (rising s.2)):=hid (by
     rw [HA2.out,hk1]
     simp only [decide_true,Bool.true_and,show decide ((1:Int)=2)=false from rfl,Bool.false_and,Bool.or_false]
     exact decide_eq_decide.2 (setOf_iff _))
    subst hk1
    have CI:=hid (Nums.is_any _ s.2 _ (hx.keep ((Below.refl _ wr).alloc (Nat.le_refl _) (.cells #[.int .i64 1,.slice Ax m cx] 108))))
    clear hs hx hks hm HA2 hbA g0 g1
    cases hr:decide (rising s.2) with
    | true =>
     rw [hr] at CI HA3
     have HF:=hid (HNX.out HA3.out)
     clear hr HA3 HNX HNO
     go_wp2_with (go_at_call 118;refine (CI.out).mono ?_;rintro e w1 ⟨rfl,hb1⟩;have HB1:=hid (HA.out.trans (hb1.mono HA.out.size));clear hb1)
     go_roundw
     case rel=>exact ⟨i+1,by omega,by go_num,HF,HB1⟩
     case measure=>simp [intOf];omega
    | false =>
     rw [hr] at CI HA3
     have HF:=hid (HNO.out HA3.out)
     clear hr HA3 HNX HNO
     go_wp2_with (go_at_call 118;refine (CI.out).mono ?_;rintro e w1 ⟨rfl,hb1⟩;have HB1:=hid (HA.out.trans (hb1.mono HA.out.size));clear hb1)
     go_ret
     rw [HF.out]
     exact ⟨rfl,HB1.out⟩
   have e1:(ks == 1)=false:=by simp [hk1]
   by_cases hk2:ks=2
   ·have HA3:Hid (okAt p i=!roomy p i):=hid (by rw [HA2.out,hk2];rfl)
    subst hk2
    clear hs hx hks hm HA2 hbA hk1 e1
    by_cases hi0:i=0
    ·have HF:=hid (HNX.out (by rw [HA3.out];unfold roomy;rw [decide_eq_false (by omega)];rfl))
     subst hi0
     simp only [Nat.zero_mul,Nat.add_zero] at j1 j2
     clear HA3 HNX HNO
     go_wp2
     go_roundw
     case rel=>exact ⟨1,by omega,by go_num,HF,HA⟩
     case measure=>simp [intOf];omega
    ·obtain ⟨r,hr⟩:∃ r,p[i - 1]?=some r:=⟨_,List.getElem?_eq_getElem (by omega)⟩
     obtain ⟨b',off',y,e',hbl',q1,q2,hy⟩:=(HV.out.keep hbw.out).at_ hr
     injection e' with e'
     injection e' with e1' e2'
     subst e1' e2'
     obtain ⟨Ay,cy,rfl,hly,hcy,-,-⟩:=hy.open_
     obtain ⟨kr,hkr⟩:∃ ks,ks=r.1:=⟨_,rfl⟩
     obtain ⟨mr,hmr⟩:∃ m,m=r.2.length:=⟨_,rfl⟩
     rw [← hkr] at q1
     rw [← hmr] at q2
     have HR:Hid (roomy p i=(decide (kr=2) && decide (mr<255))):=hid (by unfold roomy;rw [hr,decide_eq_true (by omega),hkr,hmr];rfl)
     have TB1:Below wr.heap.size wr (wr.alloc (.cells #[.int .i64 2,.slice Ax m cx] 108)):=(Below.refl _ wr).alloc (Nat.le_refl _) _
     have q1':=keepsW TB1 q1
     have q2':=keepsW TB1 q2
     have zi:(0:Int)<(i:Int):=by omega
     obtain ⟨i',rfl⟩:∃ i',i=i'+1:=⟨i - 1,by omega⟩
     have ei:(((i'+1:Nat):Int)) - 1=(i':Int):=by omega
     have y0:(0:Int)≤(i':Int):=by omega
     have y1:(i':Int)<(p.length:Int):=by omega
     simp only [Nat.add_sub_cancel] at q1 q2 q1' q2'
     clear hr hy hkr hmr TB1
     by_cases hkr2:kr=2
     ·subst hkr2
      by_cases hmr2:mr<255
      ·have y2:(mr:Int)<255:=by omega
       have HF:=hid (HNO.out (by rw [HA3.out,HR.out,decide_eq_true hmr2];rfl))
       clear HA3 HNX HNO HR
       go_wp2
       go_ret
       rw [HF.out]
       exact ⟨rfl,HA.out⟩
      ·have y2:decide ((mr:Int)<255)=false:=decide_eq_false (by omega)
       have HF:=hid (HNX.out (by rw [HA3.out,HR.out,decide_eq_false hmr2];rfl))
       clear HA3 HNX HNO HR
       go_wp2
       go_roundw
       case rel=>exact ⟨i'+1+1,by omega,by go_num,HF,HA⟩
       case measure=>simp [intOf];omega
     ·have y2:(kr == 2)=false:=by simp [hkr2]
      have HF:=hid (HNX.out (by rw [HA3.out,HR.out,decide_eq_false hkr2];rfl))
      clear HA3 HNX HNO HR
      go_wp2
      go_roundw
      case rel=>exact ⟨i'+1+1,by omega,by go_num,HF,HA⟩
      case measure=>simp [intOf];omega
   have e2:(ks == 2)=false:=by simp [hk2]
   have HF:=hid (HNO.out (by rw [HA2.out,decide_eq_false hk1,decide_eq_false hk2];rfl))
   clear hs hx hks hm HA2 HNX HNO hbA hk1 hk2
   go_wp2
   go_ret
   rw [HF.out]
   exact ⟨rfl,HA.out⟩
  ·obtain rfl:i=p.length:=by omega
   have z1:decide ((p.length:Int)<(p.length:Int))=false:=by simp
   go_wp2
   go_ret
   rw [hok.out]
   exact ⟨rfl,hbw.out⟩
end Att
end Go.Proofs.YtjfmompgkkdliaaGreatDoor
