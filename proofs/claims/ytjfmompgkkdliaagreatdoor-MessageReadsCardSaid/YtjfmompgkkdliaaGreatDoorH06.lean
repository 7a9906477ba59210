/- Part of the proof. -/
import Derived.Test.YtjfmompgkkdliaaGreatDoorH00
import Derived.Test.YtjfmompgkkdliaaGreatDoorH05
import Derived.Test.YtjfmompgkkdliaaGreatDoorH04
import Derived.BigQuiet
import Derived.Test.YtjfmompgkkdliaaGreatDoorH02
open Go.Lib (hid)
set_option maxRecDepth 100000
set_option maxHeartbeats 40000000
namespace Go.Proofs.YtjfmompgkkdliaaGreatDoor
namespace PR
open Go.RowKit Go.Sort Mem Pfx
theorem elemP:∃ i,IsElem Tryz.prog 25 67 2 16 i (.agg #[.int .u32 0,.int .i64 0]):=IsElem.mk_ Tryz.underlying25 (by kernel_rfl) rfl (by decide)
theorem own_blk2 {W:World} {base B:Nat} {t:TypeId} (hB:base≤B) (h:W.heap[B]?=some (.cells #[] t (0,0))):W.ownsRow base t 2 (.slice (some ⟨B,0,none⟩) 0 0) 0 [] :=
 ⟨rfl,.inr ⟨B,0,#[],rfl,hB,h,Nat.le_refl _,Nat.zero_le _,rfl,rfl⟩⟩
def good (p:Pf):Bool:=goodB p.a p.n
def sizeN (p:Pf):Nat:=if good p then 1+(p.n.toNat+7) / 8 else 0
theorem refSize_any (p:Pf) (w:World) (ha:p.a<4294967296):Calls Tryz.prog 125 #[pV p] w (Tells (.int .i64 (sizeN p)) w):=by
 obtain ⟨a,n⟩:=p
 unfold pV
 dsimp only at ha ⊢
 have hb:=below_new w (.cells #[.int .u32 (a:Int),.int .i64 n] 67)
 obtain ⟨c0,c1⟩:=cells_two w (.int .u32 (a:Int)) (.int .i64 n) 67
 have CG:=hid (fun (W:World)=>refGood_any a n ha W)
 have hlt:w.heap.size<(w.alloc (.cells #[.int .u32 (a:Int),.int .i64 n] 67)).heap.size:=by simp
 have HS:=hid (show sizeN ⟨a,n⟩=if goodB a n then 1+(n.toNat+7) / 8 else 0 from rfl)
 by_cases hg:goodB a n=true
 ·obtain ⟨h0,h1⟩:=goodB_len hg
  obtain ⟨k,rfl⟩:=Int.eq_ofNat_of_zero_le h0
  have hk:k≤32:=by omega
  have e:sizeN ⟨a,(k:Int)⟩=1+(k+7) / 8:=by rw [HS.out,if_pos hg];simp
  rw [e]
  rw [hg] at CG
  have HB:=hid hb
  clear hg h0 h1 e HS hb
  go_enter Tryz.func125,Tryz.ntmps125
  go_wp2_with (go_at_call 119;refine (CG.out _).mono ?_;rintro e w1 ⟨rfl,hb1⟩;have c2:=(hb1.cell (p:=⟨w.heap.size,1,none⟩) hlt).trans c1;have HB1:=hid (HB.out.trans (hb1.mono HB.out.size));clear hb1 c0 c1 hlt)
  go_loopw [3,4] (fun v3 v4 wx=>∃ j:Nat,8*j≤k+7∧v3=.int .i64 ((1+j:Nat):Int)∧v4=.int .i64 ((8*j:Nat):Int)∧wx=w1) (fun _ v4 _=>40 - (intOf v4).toNat)
  case atStart=>exact ⟨0,by omega,rfl,rfl,rfl⟩
  case round =>
   obtain ⟨j,hj,rfl,rfl,rfl⟩:=hrel
   obtain ⟨i,hi⟩:∃ i,i=8*j:=⟨_,rfl⟩
   obtain ⟨m,hm⟩:∃ m,m=1+j:=⟨_,rfl⟩
   rw [← hi,← hm]
   by_cases hlt:i<k
   ·have z1:(i:Int)<(k:Int):=by omega
    have z2:(m:Int)≤40:=by omega
    have HI:=hid (And.intro hi hm)
    clear hi hm
    go_wp2
    go_roundw
    case rel=>exact ⟨j+1,by have:=HI.out;omega,by rw [show 1+(j+1)=m+1 by have:=HI.out;omega];go_num,by rw [show 8*(j+1)=i+8 by have:=HI.out;omega];go_num,trivial⟩
    case measure=>simp [intOf];omega
   ·have z1:decide ((i:Int)<(k:Int))=false:=decide_eq_false (by omega)
    have HM:=hid (show m=1+(k+7) / 8 by omega)
    clear hi hm
    go_wp2
    go_ret
    exact ⟨by rw [← HM.out];rfl,HB1.out⟩
 ·have e:sizeN ⟨a,n⟩=0:=by rw [HS.out,if_neg hg]
  rw [e]
  have hf:goodB a n=false:=by simpa using hg
  rw [hf] at CG
  have HB:=hid hb
  clear hg hf e HS hb
  go_enter Tryz.func125,Tryz.ntmps125
  go_wp2_with (go_at_call 119;refine (CG.out _).mono ?_;rintro e w1 ⟨rfl,hb1⟩;have HB1:=hid (HB.out.trans (hb1.mono HB.out.size));clear hb1)
  go_ret
  exact ⟨rfl,HB1.out⟩
end PR
namespace PR
open Go.RowKit Go.Sort Mem Pfx
end PR
namespace PR
open Go.RowKit Mem Pfx Oct
def span (n:Nat):Nat:=(n+7) / 8
theorem span_le {n:Nat} (h:n≤32):span n≤4:=by unfold span;omega
def fill (r:List Nat) (i:Nat):List Nat:=r.take i ++ List.replicate (4 - i) 0
theorem fill_len {r:List Nat} {i:Nat} (h:i≤4) (hr:i≤r.length):(fill r i).length=4:=by
 simp only [fill,List.length_append,List.length_take,List.length_replicate];omega
theorem fill_small {r:List Nat} {i:Nat} (h:Small r):Small (fill r i):=(h.take i).append fun x hx=>by rw [(List.mem_replicate.1 hx).2];decide
theorem fill_set {r:List Nat} {i x:Nat} (h:i<4) (hx:r[i]?=some x):(fill r i).set i x=fill r (i+1):=by
 have hr:=(List.getElem?_eq_some_iff.1 hx).1
 have e1:List.replicate (4 - i) 0=0 :: List.replicate (4 - (i+1)) 0:=by
  rw [show 4 - i=(4 - (i+1))+1 by omega,List.replicate_succ]
 have hl:(r.take i).length=i:=by rw [List.length_take];omega
 unfold fill
 rw [e1,List.set_append_right _ _ (by omega),hl,Nat.sub_self,List.set_cons_zero,List.take_add_one,hx]
 simp
def elemOf (num:List Nat→Nat) (n:Nat) (r:List Nat):Pf:=⟨cutN (num (fill r (span n))) n,n⟩
def dec (num:List Nat→Nat):List Nat→Option (List Pf)
 | []=>some []
 | n :: r=>if 32<n∨r.length<span n then none else (dec num (r.drop (span n))).map (elemOf num n r :: ·)
termination_by l=>l.length
decreasing_by simp [List.length_drop];omega
theorem dec_nil (num:List Nat→Nat):dec num []=some []:=by rw [dec]
theorem dec_bad (num:List Nat→Nat) {n:Nat} {r:List Nat} (h:32<n∨r.length<span n):dec num (n :: r)=none:=by rw [dec,if_pos h]
theorem dec_ok (num:List Nat→Nat) {n:Nat} {r:List Nat} (h1:n≤32) (h2:span n≤r.length):dec num (n :: r)=(dec num (r.drop (span n))).map (elemOf num n r :: ·):=by rw [dec,if_neg (by omega)]
def Left (num:List Nat→Nat) (b:List Nat) (out:List Pf) (rest:List Nat):Prop:=dec num b=(dec num rest).map (out ++ ·)
theorem left_start (num:List Nat→Nat) (b:List Nat):Left num b [] b:=by
 unfold Left
 cases dec num b <;> simp
theorem left_next {num:List Nat→Nat} {b r:List Nat} {out:List Pf} {n:Nat} (h:Left num b out (n :: r)) (h1:n≤32) (h2:span n≤r.length):Left num b (out ++ [elemOf num n r]) (r.drop (span n)):=by
 unfold Left at h ⊢
 rw [h,dec_ok num h1 h2]
 cases dec num (r.drop (span n)) <;> simp
theorem left_bad {num:List Nat→Nat} {b r:List Nat} {out:List Pf} {n:Nat} (h:Left num b out (n :: r)) (h1:32<n∨r.length<span n):dec num b=none:=by
 unfold Left at h
 rw [h,dec_bad num h1];rfl
theorem left_done {num:List Nat→Nat} {b:List Nat} {out:List Pf} (h:Left num b out []):dec num b=some out:=by
 unfold Left at h
 rw [h,dec_nil];simp
end PR
namespace PR
open Go.RowKit Mem Pfx Oct
def DecF (b:List Nat) (w:World) (e:Ending) (w':World):Prop :=
 (dec val b=none∧e=.returned (.tuple #[.slice none 0 0,.bool false])∧Below w.heap.size w w') ∨
 ∃ L A c,dec val b=some L∧e=.returned (.tuple #[.slice A L.length c,.bool true])∧w'.ownsRow w.heap.size 67 2 (.slice A L.length c) L.length (pcells L)∧Oks L∧Below w.heap.size w w'
theorem size_zero {n:Nat} (h:n≤32):sizeN ⟨0,(n:Int)⟩=1+span n:=by
 unfold sizeN good
 rw [goodB_in h,if_pos (by simp [cutN])]
 rfl
theorem size_big {n:Nat} (h:32<n):sizeN ⟨0,(n:Int)⟩=0:=by
 unfold sizeN good
 rw [goodB_no (fitsB_no (.inr (by show (32:Int)<(n:Int);omega)))];rfl
theorem fill_val {r:List Nat} {i:Nat} (h:Small r) (hi:i≤4) (hr:i≤r.length):val (fill r i)<4294967296:=by
 have h1:=val_lt 4 (fill_small (i:=i) h)
 rw [List.take_of_length_le (by rw [fill_len hi hr];exact Nat.le_refl _)] at h1
 exact h1
theorem fill_owned {w:World} {g:Nat} {l:List Nat} {t:TypeId} (hl:Small l) (h4:l.length=4) (h:w.heap[g]?=some (.cells (cells8 l).toArray t (0,0))):U8s w (.slice (some ⟨g,0,none⟩) 4 4) l:=by
 rw [show (Value.slice (some ⟨g,0,none⟩) 4 4)=.slice (some ⟨g,0,none⟩) l.length l.length by rw [h4]]
 exact U8s.of_own (base:=0) (e:=t) ⟨by rw [cells8_len,Nat.mul_one],.inr ⟨g,l.length,_,rfl,Nat.zero_le _,h,Nat.le_refl _,by unfold maxLen;omega,by simp [cells8_len],by rw [Nat.mul_one,List.toList_toArray,List.take_of_length_le (by rw [cells8_len];exact Nat.le_refl _)]⟩⟩ hl
theorem cells8_set (l:List Nat) (i x:Nat):(cells8 l).set i (Value.int .u8 x)=cells8 (l.set i x):=by
 unfold cells8
 rw [List.map_set]
theorem block_set8 {w:World} {g i x:Nat} {l:List Nat} {t:TypeId} (h:w.heap[g]?=some (.cells (cells8 l).toArray t (0,0))):(w.setCell ⟨g,i,none⟩ (.int .u8 x)).heap[g]?=some (.cells (cells8 (l.set i x)).toArray t (0,0)):=by
 rw [Go.Joins.block_setCell h,← cells8_set]
 simp
theorem own_one2 {w:World} (x y:Value) (t:TypeId):Row (w.alloc (.cells #[x,y] t)) 2 (.slice (some ⟨w.heap.size,0,none⟩) 1 1) 1 [x,y] :=
 Row.of_own (base:=0) (e:=t) ⟨rfl,.inr ⟨w.heap.size,1,#[x,y],rfl,Nat.zero_le _,heap_alloc_new _ _,Nat.le_refl _,by decide,rfl,rfl⟩⟩
theorem refDecode_any (v:Value) (b:List Nat) (w:World) (hv:U8s w v b) (hl:b.length≤1000000):Calls Tryz.prog 97 #[v] w (DecF b w):=by
 obtain ⟨i0,E0⟩:=elemP
 have HV:=hid hv
 obtain ⟨A,c,rfl,hlc,hc⟩:=hv.form
 clear hv
 have h0:(w.alloc (.cells #[] 67)).ownsRow w.heap.size 67 2 (.slice (some ⟨w.heap.size,0,none⟩) 0 0) 0 (pcells []):=own_blk2 (Nat.le_refl _) (heap_alloc_new _ _)
 have hb0:Below w.heap.size w (w.alloc (.cells #[] 67)):=(Below.refl _ w).alloc (Nat.le_refl _) _
 go_enter Tryz.func97,Tryz.ntmps97
 go_wp2
 go_loopw [4,5] (fun v4 v5 wx=>∃ (j m:Nat) (A:Option Addr) (c:Nat) (out:List Pf),j≤b.length∧v5=.int .i64 j∧v4=.slice A m c∧Hid (m=out.length)∧m≤j∧Hid (Oks out)∧Hid (Left val b out (b.drop j))∧Hid (wx.ownsRow w.heap.size 67 2 (.slice A m c) m (pcells out))∧Hid (Below w.heap.size w wx)) (fun _ v5 _=>b.length - (intOf v5).toNat)
 case atStart=>exact ⟨0,0,_,0,[],Nat.zero_le _,rfl,rfl,hid rfl,Nat.le_refl _,hid oks_nil,hid (left_start _ _),hid h0,hid hb0⟩
 case round =>
  obtain ⟨j,m,Ar,cr,out,hj,rfl,rfl,hm,hmj,hok,hleft,hown,hb⟩:=hrel
  by_cases hlt:j<b.length
  ·obtain ⟨bk,off,n,rfl,hbl,hn,hn256,k0⟩:=(HV.out).at_ hlt
   have hdrop:b.drop j=n :: b.drop (j+1):=by
    rw [List.drop_eq_getElem_cons hlt]
    congr 1
    have:=List.getElem?_eq_getElem hlt
    rw [hn] at this
    injection this with this
    exact this.symm
   obtain ⟨r,hr⟩:∃ r,r=b.drop (j+1):=⟨_,rfl⟩
   have hrl:r.length+j+1=b.length:=by rw [hr,List.length_drop];omega
   have HL:=hid (show Left val b out (n :: r) by rw [hr,← hdrop];exact hleft.out)
   have HRS:=hid (show Small r by rw [hr];exact HV.out.2.drop _)
   have HRC:=hid (fun (W:World) (h:Below w.heap.size w W) (i x:Nat) (hi:r[i]?=some x)=>show W.cell? ⟨bk,off+(j+1+i),none⟩=some (.int .u8 x) from by
    rw [hr,List.getElem?_drop] at hi
    obtain ⟨b',o',x',e1,_,hx',_,hc'⟩:=(HV.out).at_ (k:=j+1+i) (List.getElem?_eq_some_iff.1 hi).1
    injection e1 with e1
    injection e1 with e1 e2
    subst e1 e2
    rw [hi] at hx'
    injection hx' with hx'
    subst hx'
    exact (h.cell (p:=⟨bk,off+(j+1+i),none⟩) hbl).trans hc')
   have c0:=(hb.out.cell (p:=⟨bk,off+j,none⟩) hbl).trans k0
   have z0:(0:Int)≤(j:Int):=by omega
   have z1:(j:Int)<(b.length:Int):=by omega
   have z2:(b.length:Int)≤1000000:=by omega
   have zn:(n:Int)≤255:=by omega
   have HRD:=hid hr
   clear k0 hn hdrop hr hbl hleft
   by_cases hn32:n≤32
   ·obtain ⟨s,hs⟩:∃ s,s=span n:=⟨_,rfl⟩
    have hs4:s≤4:=hs ▸ span_le hn32
    have CS:=hid (fun (W:World)=>show Calls Tryz.prog 125 #[.agg #[.int .u32 0,.int .i64 n]] W (Tells (.int .i64 ((1+s:Nat):Int)) W) from by
     have h:=refSize_any ⟨0,(n:Int)⟩ W (by show 0<4294967296;omega)
     rw [size_zero hn32,← hs] at h
     exact h)
    obtain ⟨q,hq⟩:∃ q,q=1+s:=⟨_,rfl⟩
    rw [← hq] at CS
    by_cases hsr:s≤r.length
    ·have hLN:=hid (left_next HL.out hn32 (hs ▸ hsr))
     have y1:decide (32<(n:Int))=false:=decide_eq_false (by omega)
     have y2:decide ((b.length:Int)<(j:Int)+(q:Int))=false:=decide_eq_false (by omega)
     have y3:(q:Int)≤5:=by omega
     have y4:(j:Int)+(q:Int)≤(b.length:Int):=by omega
     have HS:=hid hs
     have HQ:=hid hq
     clear hs hq
     go_wp2_with (go_at_call 125;refine (CS.out _).mono ?_;rintro e w1 ⟨rfl,hb1⟩;have B1:=hid (hb.out.trans (hb1.mono hb.out.size));have O1:=hid (own_keep hown.out hb1);clear hb1 c0)
     have hV:=fill_val (i:=s) HRS.out hs4 hsr
     have hfl:=fill_len (r:=r) hs4 hsr
     obtain ⟨V,hVe⟩:∃ V,V=val (fill r s):=⟨_,rfl⟩
     have CN:=hid (fun (g:Nat) (W:World) (h:W.heap[g]?=some (.cells (cells8 (fill r s)).toArray 5 (0,0)))=>show Calls Tryz.prog 95 #[.slice (some ⟨g,0,none⟩) 4 4] W (Tells (.int .u32 V) W) from by
      rw [hVe]
      exact num_any _ _ W (fill_owned (fill_small HRS.out) hfl h) (by omega))
     rw [← hVe] at hV
     have CC:=hid (fun W=>refCut_in V n hV hn32 W)
     have HEL:=hid (show elemOf val n r=⟨cutN V n,(n:Int)⟩ by rw [hVe,HS.out];rfl)
     have hcl:cutN V n<4294967296:=Nat.lt_of_le_of_lt (cutN_le V n) hV
     have HCL:=hid hcl
     generalize cutN V n=D at CC HEL HCL hcl
     clear hVe hV hfl hcl
     go_loopw [9] (fun v9 wx=>∃ i:Nat,i≤s∧v9=.int .i64 i∧Hid (wx.heap[w1.heap.size]?=some (.cells (cells8 (fill r i)).toArray 5 (0,0)))∧Hid (Below w1.heap.size w1 wx)) (fun v9 _=>8 - (intOf v9).toNat)
     case atStart=>exact ⟨0,Nat.zero_le _,rfl,hid (heap_alloc_new _ _),hid ((Below.refl _ _).alloc (Nat.le_refl _) _)⟩
     case round =>
      obtain ⟨i,hi,rfl,hgb,hbi⟩:=hrel
      by_cases his:i<s
      ·obtain ⟨x,hx⟩:∃ x,r[i]?=some x:=⟨_,List.getElem?_eq_getElem (by omega)⟩
       have hx256:=HRS.out x (List.mem_of_getElem? hx)
       have cB:=HRC.out _ (B1.out.trans (hbi.out.mono B1.out.size)) i x hx
       have hfi:=fill_len (r:=r) (i:=i) (by omega) (by omega)
       obtain ⟨y,hy⟩:∃ y,(cells8 (fill r i)).toArray[i]?=some y:=⟨_,Array.getElem?_eq_getElem (by rw [List.size_toArray,cells8_len,hfi];omega)⟩
       have cG:=(Go.Joins.cell_of_block hgb.out i).trans hy
       have cF:=Go.Joins.unfrozen_of_block hgb.out i
       have HST:=hid (fill_set (by omega) hx)
       have t0:(0:Int)≤(i:Int):=by omega
       have t1:(i:Int)<4:=by omega
       have t2:(i:Int)+1<(q:Int):=by have:=HQ.out;omega
       have t3:(j:Int)+1+(i:Int)<(b.length:Int):=by omega
       have h4:i<4:=by omega
       clear hx hy hfi
       go_wp2
       go_roundw
       case rel=>exact ⟨i+1,his,by go_num,hid (by have h5:=block_set8 (i:=i) (x:=x) hgb.out;rw [HST.out] at h5;exact h5),hid (hbi.out.setCell (p:=⟨w1.heap.size,i,none⟩) (Nat.le_refl _) _)⟩
       case measure=>simp [intOf];omega
      ·have HIS:=hid (show i=s by omega)
       have t2:decide ((i:Int)+1<(q:Int))=false:=decide_eq_false (by have:=HQ.out;omega)
       have t3:(i:Int)≤4:=by omega
       have hgs:_:=hgb.out
       rw [HIS.out] at hgs
       have HGS:=hid hgs
       have BI:=hid (B1.out.trans (hbi.out.mono B1.out.size))
       have OI:=hid (own_keep O1.out hbi.out)
       clear hgs
       go_wp2_with (first
        | (go_at_call 95;refine (CN.out _ _ HGS.out).mono ?_;rintro e w2 ⟨rfl,hb2⟩;have B2:=hid (BI.out.trans (hb2.mono BI.out.size));have O2:=hid (own_keep OI.out hb2);clear hb2)
        | (go_at_call 140;refine (CC.out _).mono ?_;rintro e w3 ⟨rfl,rfl⟩;have O3:=hid (own_keep O2.out ((Below.refl _ w2).alloc (Nat.le_refl _) (.cells #[.int .u32 D,.int .i64 n] 67)));have B3:=hid (B2.out.alloc B2.out.size (.cells #[.int .u32 D,.int .i64 n] 67)))
        | (at_builtin;refine wpList_append_row rfl (.tmp 50) (.tmp 57) rfl E0 w.heap.size _ m _ rfl O3.out _ 1 (pcells [⟨D,(n:Int)⟩]) rfl (own_one2 _ _ _) (ones_p _) (by unfold maxLen;omega) (by omega) B3.out.size (m+1) rfl ?_;intro A4 c4 w4 hown4 hg4 hat4 hb4;have O4:=hid hown4;have B4:=hid (B3.out.trans hb4);clear hown4 hg4 hat4 hb4))
       go_roundw
       case rel =>
        have e1:(List.drop (span n) r)=b.drop (j+q):=by
         rw [HRD.out,List.drop_drop,← HS.out,HQ.out]
         congr 1
         omega
        have e2:=hLN.out
        rw [e1,HEL.out] at e2
        refine ⟨j+q,m+1,_,_,out ++ [⟨D,(n:Int)⟩],by have:=HQ.out;omega,by go_num,rfl,hid (by rw [List.length_append,← hm.out];rfl),by have:=HQ.out;omega,hid (hok.out.append fun p hp=>?_),hid e2,hid (by rw [pcells_append];exact O4.out),B4⟩
        simp only [List.mem_singleton] at hp
        subst hp
        refine ⟨HCL.out,?_⟩
        simp [Lit.wf,IntKind.min,IntKind.max,IntKind.signed,IntKind.bits]
        omega
       case measure =>
        have:=HQ.out
        simp [intOf];omega
    ·have hD:=hid (left_bad HL.out (.inr (by omega)))
     have y1:decide (32<(n:Int))=false:=decide_eq_false (by omega)
     have y2:decide ((b.length:Int)<(j:Int)+(q:Int))=true:=decide_eq_true (by omega)
     have y3:(q:Int)≤5:=by omega
     clear hs hq
     go_wp2_with (go_at_call 125;refine (CS.out _).mono ?_;rintro e w1 ⟨rfl,hb1⟩;have B1:=hid (hb.out.trans (hb1.mono hb.out.size));clear hb1)
     go_ret2
     exact .inl ⟨hD.out,rfl,B1.out⟩
   ·have hD:=hid (left_bad HL.out (.inl (by omega)))
    have CS:=hid (fun (W:World)=>show Calls Tryz.prog 125 #[.agg #[.int .u32 0,.int .i64 n]] W (Tells (.int .i64 0) W) from by
     have h:=refSize_any ⟨0,(n:Int)⟩ W (by show 0<4294967296;omega)
     rw [size_big (by omega)] at h
     exact h)
    have y1:decide (32<(n:Int))=true:=decide_eq_true (by omega)
    go_wp2_with (go_at_call 125;refine (CS.out _).mono ?_;rintro e w1 ⟨rfl,hb1⟩;have B1:=hid (hb.out.trans (hb1.mono hb.out.size));clear hb1)
    go_ret2
    exact .inl ⟨hD.out,rfl,B1.out⟩
  ·have z1:decide ((j:Int)<(b.length:Int))=false:=decide_eq_false (by omega)
   have HJ:=hid (show b.drop j=[] from List.drop_of_length_le (by omega))
   go_wp2
   go_ret2
   have h1:=hm.out
   have h2:=hown.out
   have h3:=hleft.out
   rw [HJ.out] at h3
   subst h1
   exact .inr ⟨out,_,_,left_done h3,rfl,h2,hok.out,hb.out⟩
end PR
namespace PR
open Go.RowKit Mem Pfx Oct
theorem size_any (p:Pf) (w:World) (ha:p.a<4294967296):Calls Tryz.prog 132 #[pV p] w (Tells (.int .i64 (sizeN p)) w):=by
 obtain ⟨a,n⟩:=p
 unfold pV
 dsimp only at ha ⊢
 have hb:=below_new w (.cells #[.int .u32 (a:Int),.int .i64 n] 67)
 obtain ⟨c0,c1⟩:=cells_two w (.int .u32 (a:Int)) (.int .i64 n) 67
 have CG:=hid (fun (W:World)=>good_any a n ha W)
 have hlt:w.heap.size<(w.alloc (.cells #[.int .u32 (a:Int),.int .i64 n] 67)).heap.size:=by simp
 have HS:=hid (show sizeN ⟨a,n⟩=if goodB a n then 1+(n.toNat+7) / 8 else 0 from rfl)
 by_cases hg:goodB a n=true
 ·obtain ⟨h0,h1⟩:=goodB_len hg
  obtain ⟨k,rfl⟩:=Int.eq_ofNat_of_zero_le h0
  have hk:(k:Int)≤32:=by omega
  have e:sizeN ⟨a,(k:Int)⟩=1+(k+7) / 8:=by rw [HS.out,if_pos hg];simp
  rw [e]
  rw [hg] at CG
  have HB:=hid hb
  have z0:(0:Int)≤(k:Int):=by omega
  clear hg h0 h1 e HS hb
  go_enter Tryz.func132,Tryz.ntmps132
  go_wp2_with (go_at_call 110;refine (CG.out _).mono ?_;rintro e w1 ⟨rfl,hb1⟩;have c2:=(hb1.cell (p:=⟨w.heap.size,1,none⟩) hlt).trans c1;have HB1:=hid (HB.out.trans (hb1.mono HB.out.size));clear hb1 c0 c1 hlt)
  go_ret
  refine ⟨?_,HB1.out⟩
  congr 2
  go_num
 ·have e:sizeN ⟨a,n⟩=0:=by rw [HS.out,if_neg hg]
  rw [e]
  have hf:goodB a n=false:=by simpa using hg
  rw [hf] at CG
  have HB:=hid hb
  clear hg hf e HS hb
  go_enter Tryz.func132,Tryz.ntmps132
  go_wp2_with (go_at_call 110;refine (CG.out _).mono ?_;rintro e w1 ⟨rfl,hb1⟩;have HB1:=hid (HB.out.trans (hb1.mono HB.out.size));clear hb1)
  go_ret
  exact ⟨rfl,HB1.out⟩
theorem place_any (i:Nat) (hi:i≤3) (w:World):Calls Tryz.prog 133 #[.int .i64 i] w (fun e w'=>e=.returned (.int .i64 ((24 - 8*i:Nat):Int))∧w'=w):=by
 have z0:(0:Int)≤(i:Int):=by omega
 have z1:(i:Int)≤3:=by omega
 have e:((24 - 8*i:Nat):Int)=24 - (i:Int)*8:=by omega
 rw [e]
 clear e hi
 go_enter Tryz.func133,Tryz.ntmps133
 go_wp2
 go_ret
 exact ⟨rfl,rfl⟩
end PR
namespace PR
open Go.RowKit Mem Pfx Oct
end PR
end Go.Proofs.YtjfmompgkkdliaaGreatDoor
