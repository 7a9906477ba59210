/- Part of the proof. -/
import Derived.Test.YtjfmompgkkdliaaGreatDoorG01
import Derived.Lib.QuietBelow
open Go.Lib (hid)
set_option maxRecDepth 100000
set_option maxHeartbeats 40000000
namespace Go.Proofs.YtjfmompgkkdliaaGreatDoor
namespace Seg
open Go.RowKit Mem Rise Nums Segm
theorem same_in {W:World} {x y:Value} {a b:List Nat} (hx:U32s W x a) (hy:U32s W y b) :
  ∀ d os,Calls Tryz.prog 121 #[x,y] (Go.Sort.grow (redrawn W d) os) fun e w''=>e=.returned (.bool (decide (a=b)))∧∃ p:Regrown,w''=Go.Sort.grow (redrawn W p.d) p.os :=
 fun d os=>Calls.regrown_of (refSame_any x y a b _ (hx.keep (below_regrown W d os)) (hy.keep (below_regrown W d os)))
theorem seq_snoc {p q:List Piece} {k:Nat} (h:p.take k=q.take k) (he:p[k]?=q[k]?):p.take (k+1)=q.take (k+1):=by
 rw [List.take_add_one,List.take_add_one,h,he]
theorem far {w a b:World} (h:Below w.heap.size w a) (k:Below a.heap.size a b):Below w.heap.size w b:=Go.RowKit.Below.trans h (k.mono h.size)
theorem same_any (va vb:Value) (p q:List Piece) (w:World) (ha:Segs w va p) (hb:Segs w vb q) :
  Calls Tryz.prog 120 #[va,vb] w (Tells (.bool (decide (p=q))) w):=by
 have HA:=hid ha
 have HB:=hid hb
 obtain ⟨A,c,rfl,hlc,hc⟩:=ha.form
 obtain ⟨B,d,rfl,hld,hd⟩:=hb.form
 clear ha hb
 by_cases hl:p.length=q.length
 ·have ht:((p.length:Int) != (q.length:Int))=false:=by rw [hl];simp
  have h1:p.length≤q.length:=by omega
  have h2:q.length≤p.length:=by omega
  clear hl
  go_enter Tryz.func120,Tryz.ntmps120
  go_wp2
  go_loopw [5] (fun i wr=>∃ k:Nat,k≤p.length∧i=.int .i64 k∧Hid (p.take k=q.take k)∧Hid (Below w.heap.size w wr)) (fun i _=>p.length - (intOf i).toNat)
  case atStart=>exact ⟨0,Nat.zero_le _,rfl,by unfold Hid;simp,Below.refl _ _⟩
  case round =>
   obtain ⟨k,hk,rfl,hs,hbw⟩:=hrel
   by_cases hlt:k<p.length
   ·obtain ⟨s,hs1⟩:∃ s,p[k]?=some s:=⟨_,List.getElem?_eq_getElem hlt⟩
    obtain ⟨t,ht1⟩:∃ t,q[k]?=some t:=⟨_,List.getElem?_eq_getElem (by omega)⟩
    obtain ⟨b0,off0,x,rfl,hb0,k1,k2,hx⟩:=((HA.out).keep hbw.out).at_ hs1
    obtain ⟨b1,off1,y,rfl,hb1,m1,m2,hy⟩:=((HB.out).keep hbw.out).at_ ht1
    have z0:(0:Int)≤(k:Int):=by omega
    have z1:(k:Int)<(p.length:Int):=by omega
    have z2:(k:Int)<(q.length:Int):=by omega
    have k1':=cell_regrown k1
    have k2':=cell_regrown k2
    have m1':=cell_regrown m1
    have m2':=cell_regrown m2
    have CS:=same_in hx hy
    by_cases hk2:s.1=t.1
    ·by_cases hab:s.2=t.2
     ·have HE:=hid (seq_snoc hs.out (show p[k]?=q[k]? by rw [hs1,ht1];exact congrArg some (Prod.ext hk2 hab)))
      rw [decide_eq_true hab] at CS
      have hkk:((s.1:Int) != t.1)=false:=by rw [hk2];simp
      clear hs1 ht1 hk2 hab hx hy
      generalize s.1=ks at k1 k1' hkk
      generalize t.1=kt at m1 m1' hkk
      go_wp2_with fail
      refine wp_region_quiet_below (by kernel_rfl) (by kernel_rfl) ?_
      repeat (first | go_big_quiet_step (first | with_reducible exact CS _ _) | quiet_step (first | with_reducible exact CS _ _))
      refine wpQuiet_nil ?_
      intro _ hw'
      obtain ⟨⟨dq,osq⟩,hw''⟩:=hw'
      subst hw''
      go_wp2_with fail
      go_roundw
      case rel=>exact ⟨k+1,by omega,by go_num,HE,far hbw.out (below_regrown _ dq osq)⟩
      case measure=>simp [intOf];omega
     ·have HN:=hid (show ¬ p=q by
       intro e
       rw [e,ht1] at hs1
       injection hs1 with hs1
       exact hab (congrArg Prod.snd hs1.symm))
      rw [decide_eq_false hab] at CS
      have hkk:((s.1:Int) != t.1)=false:=by rw [hk2];simp
      clear hs1 ht1 hk2 hab hx hy
      generalize s.1=ks at k1 k1' hkk
      generalize t.1=kt at m1 m1' hkk
      go_wp2_with fail
      refine wp_region_quiet_below (by kernel_rfl) (by kernel_rfl) ?_
      repeat (first | go_big_quiet_step (first | with_reducible exact CS _ _) | quiet_step (first | with_reducible exact CS _ _))
      refine wpQuiet_nil ?_
      intro _ hw'
      obtain ⟨⟨dq,osq⟩,hw''⟩:=hw'
      subst hw''
      go_wp2_with fail
      go_ret
      exact ⟨ret_bool (decide_eq_false HN.out).symm,far hbw.out (below_regrown _ dq osq)⟩
    ·have HN:=hid (show ¬ p=q by
      intro e
      rw [e,ht1] at hs1
      injection hs1 with hs1
      exact hk2 (congrArg Prod.fst hs1.symm))
     have hkk:((s.1:Int) != t.1)=true:=by simpa using hk2
     clear hs1 ht1 hk2 hx hy CS
     generalize s.1=ks at k1 k1' hkk
     generalize t.1=kt at m1 m1' hkk
     go_wp2_with fail
     refine wp_region_quiet_below (by kernel_rfl) (by kernel_rfl) ?_
     repeat (first | go_big_quiet_step (fail) | quiet_step (fail))
     refine wpQuiet_nil ?_
     intro _ hw'
     obtain ⟨⟨dq,osq⟩,hw''⟩:=hw'
     subst hw''
     go_wp2_with fail
     go_ret
     exact ⟨ret_bool (decide_eq_false HN.out).symm,far hbw.out (below_regrown _ dq osq)⟩
   ·have HK:=hid (show p=q by
     have:=hs.out
     rwa [List.take_of_length_le (by omega),List.take_of_length_le (by omega)] at this)
    go_wp2
    go_ret
    exact ⟨ret_bool (decide_eq_true HK.out).symm,hbw.out⟩
 ·have ht:((p.length:Int) != (q.length:Int))=true:=by simp;omega
  have HN:=hid (show ¬ p=q from fun e=>hl (by rw [e]))
  clear hl
  go_enter Tryz.func120,Tryz.ntmps120
  go_wp2
  go_ret
  exact ⟨ret_bool (decide_eq_false HN.out).symm,Below.refl _ _⟩
end Seg
namespace Att
open Go.RowKit Mem Rise Nums Segm
theorem keepsS {W w1:World} (hb:Below W.heap.size W w1) {a:Addr} {v:Value} (h:W.cell? a=some v):w1.cell? a=some v :=
 (hb.cell (block_lt_of_cell h)).trans h
theorem two_boxed (w:World) (a b x y:Value) (t u:TypeId):Below w.heap.size w ((w.alloc (.cells #[a,b] t)).alloc (.cells #[x,y] u)) ∧
  ((w.alloc (.cells #[a,b] t)).alloc (.cells #[x,y] u)).cell? ⟨w.heap.size,0,none⟩=some a∧((w.alloc (.cells #[a,b] t)).alloc (.cells #[x,y] u)).cell? ⟨w.heap.size,1,none⟩=some b ∧
  ((w.alloc (.cells #[a,b] t)).alloc (.cells #[x,y] u)).cell? ⟨w.heap.size+1,0,none⟩=some x∧((w.alloc (.cells #[a,b] t)).alloc (.cells #[x,y] u)).cell? ⟨w.heap.size+1,1,none⟩=some y:=by
 have B1:Below w.heap.size w (w.alloc (.cells #[a,b] t)):=(Below.refl _ w).alloc (Nat.le_refl _) _
 have B2:Below (w.alloc (.cells #[a,b] t)).heap.size (w.alloc (.cells #[a,b] t)) ((w.alloc (.cells #[a,b] t)).alloc (.cells #[x,y] u)):=(Below.refl _ _).alloc (Nat.le_refl _) _
 have e:(w.alloc (.cells #[a,b] t)).heap.size=w.heap.size+1:=by simp
 refine ⟨B1.trans (B2.mono B1.size),?_,?_,?_,?_⟩
 ·exact (B2.cell (p:=⟨w.heap.size,0,none⟩) (by rw [e];exact Nat.lt_succ_self _)).trans (by simp [go_sem])
 ·exact (B2.cell (p:=⟨w.heap.size,1,none⟩) (by rw [e];exact Nat.lt_succ_self _)).trans (by simp [go_sem])
 ·rw [← e];simp [go_sem]
 ·rw [← e];simp [go_sem]
theorem psame_one (k1 k2:Int) (x y:Value) (a b:List Nat) (w:World) (hx:U32s w x a) (hy:U32s w y b) :
  Calls Tryz.prog 151 #[.agg #[.int .i64 k1,x],.agg #[.int .i64 k2,y]] w (Tells (.bool (decide (k1=k2∧a=b))) w):=by
 obtain ⟨B,c0,c1,d0,d1⟩:=two_boxed w (.int .i64 k1) x (.int .i64 k2) y 108 108
 have HB:=hid B
 have CS:=hid (Nums.same_any x y a b _ (hx.keep B) (hy.keep B))
 clear B hx hy
 by_cases hk:k1=k2
 ·have y0:(k1 == k2)=true:=by simp [hk]
  have e:decide (k1=k2∧a=b)=decide (a=b):=by simp [hk]
  rw [e]
  generalize decide (a=b)=r at CS ⊢
  clear hk e
  go_enter Tryz.func151,Tryz.ntmps151
  go_wp2_with (go_at_call 112;refine (CS.out).mono ?_;rintro e w1 ⟨rfl,hb⟩;have HB1:=hid (HB.out.trans (hb.mono HB.out.size));clear hb)
  go_ret
  exact ⟨rfl,HB1.out⟩
 ·have y0:(k1 == k2)=false:=by simp [hk]
  have e:decide (k1=k2∧a=b)=false:=decide_eq_false (fun h=>hk h.1)
  rw [e]
  clear hk e CS
  go_enter Tryz.func151,Tryz.ntmps151
  go_wp2
  go_ret
  exact ⟨rfl,HB.out⟩
theorem equalf_any (va vb:Value) (p q:List Piece) (w:World) (ha:Segs w va p) (hb:Segs w vb q) :
  Calls Tryz.prog 150 #[va,vb,.func (.func 151) #[] #[]] w (Tells (.bool (decide (p=q))) w):=by
 have HA:=hid ha
 have HB:=hid hb
 obtain ⟨A,c,rfl,hlc,hc⟩:=ha.form
 obtain ⟨B,d,rfl,hld,hd⟩:=hb.form
 have HW:=hid (Below.refl w.heap.size w)
 clear ha hb
 by_cases hl:p.length=q.length
 ·have ht:((p.length:Int) != (q.length:Int))=false:=by rw [hl];simp
  have h1:p.length≤q.length:=by omega
  have h2:q.length≤p.length:=by omega
  clear hl
  go_enter Tryz.func150,Tryz.ntmps150
  go_wp2
  go_loopw [17] (fun i wr=>∃ k:Nat,k≤p.length∧i=.int .i64 k∧Hid (p.take k=q.take k)∧Hid (Below w.heap.size w wr)) (fun i _=>p.length - (intOf i).toNat)
  case atStart=>exact ⟨0,Nat.zero_le _,rfl,by unfold Hid;simp,HW⟩
  case round =>
   obtain ⟨k,hk,rfl,hs,hbw⟩:=hrel
   by_cases hlt:k<p.length
   ·obtain ⟨s,hs1⟩:∃ s,p[k]?=some s:=⟨_,List.getElem?_eq_getElem hlt⟩
    obtain ⟨t,ht1⟩:∃ t,q[k]?=some t:=⟨_,List.getElem?_eq_getElem (by omega)⟩
    obtain ⟨b0,off0,x,rfl,hb0,k1,k2,hx⟩:=((HA.out).keep hbw.out).at_ hs1
    obtain ⟨b1,off1,y,rfl,hb1,m1,m2,hy⟩:=((HB.out).keep hbw.out).at_ ht1
    have z0:(0:Int)≤(k:Int):=by omega
    have z1:(k:Int)<(p.length:Int):=by omega
    have z2:(k:Int)<(q.length:Int):=by omega
    obtain ⟨Ax,cx,rfl,-,-,-,-⟩:=hx.open_
    obtain ⟨Ay,cy,rfl,-,-,-,-⟩:=hy.open_
    obtain ⟨ms,hms⟩:∃ m,m=s.2.length:=⟨_,rfl⟩
    obtain ⟨mt,hmt⟩:∃ m,m=t.2.length:=⟨_,rfl⟩
    rw [← hms] at k2 hx
    rw [← hmt] at m2 hy
    obtain ⟨TB,c0,c1,d0,d1⟩:=two_boxed wr (.int .i64 s.1) (.slice Ax ms cx) (.int .i64 t.1) (.slice Ay mt cy) 108 108
    have TB1:Below wr.heap.size wr (wr.alloc (.cells #[.int .i64 s.1,.slice Ax ms cx] 108)):=(Below.refl _ wr).alloc (Nat.le_refl _) _
    have m1':=keepsS TB1 m1
    have m2':=keepsS TB1 m2
    have CS:=hid (psame_one s.1 t.1 _ _ s.2 t.2 _ (hx.keep TB) (hy.keep TB))
    have HT:=hid (hbw.out.trans (TB.mono hbw.out.size))
    have HD:=hid (show decide (s.1=t.1∧s.2=t.2)=true ↔ s=t by
     rw [decide_eq_true_eq]
     exact ⟨fun h=>Prod.ext h.1 h.2,fun h=>by rw [h];exact ⟨rfl,rfl⟩⟩)
    have HN:=hid (show s≠t→¬ p=q from fun hne e=>by
     rw [e,ht1] at hs1
     injection hs1 with hs1
     exact hne hs1.symm)
    have HE:=hid (show s=t→p.take (k+1)=q.take (k+1) from fun e=>Seg.seq_snoc hs.out (by rw [hs1,ht1,e]))
    generalize decide (s.1=t.1∧s.2=t.2)=r at CS HD
    clear TB TB1 hx hy hs1 ht1 m1 m2 hms hmt
    generalize s.1=ks at k1 c0 c1 d0 d1 m1' m2' CS HT
    generalize t.1=kt at c0 c1 d0 d1 m1' CS HT
    cases r with
    | true =>
     go_wp2_with (go_at_call 151;refine (CS.out).mono ?_;rintro e w1 ⟨rfl,hb⟩;have HB1:=hid (HT.out.trans (hb.mono HT.out.size));clear hb)
     go_roundw
     case rel=>exact ⟨k+1,by omega,by go_num,hid (HE.out (HD.out.1 (by trivial))),HB1⟩
     case measure=>simp [intOf];omega
    | false =>
     go_wp2_with (go_at_call 151;refine (CS.out).mono ?_;rintro e w1 ⟨rfl,hb⟩;have HB1:=hid (HT.out.trans (hb.mono HT.out.size));clear hb)
     go_ret
     exact ⟨ret_bool (decide_eq_false (HN.out (fun e=>by simpa using HD.out.2 e))).symm,HB1.out⟩
   ·have HK:=hid (show p=q by
     have:=hs.out
     rwa [List.take_of_length_le (by omega),List.take_of_length_le (by omega)] at this)
    go_wp2
    go_ret
    exact ⟨ret_bool (decide_eq_true HK.out).symm,hbw.out⟩
 ·have ht:((p.length:Int) != (q.length:Int))=true:=by simp;omega
  have HN:=hid (show ¬ p=q from fun e=>hl (by rw [e]))
  clear hl
  go_enter Tryz.func150,Tryz.ntmps150
  go_wp2
  go_ret
  exact ⟨ret_bool (decide_eq_false HN.out).symm,HW.out⟩
theorem psame_any (va vb:Value) (p q:List Piece) (w:World) (ha:Segs w va p) (hb:Segs w vb q) :
  Calls Tryz.prog 111 #[va,vb] w (Tells (.bool (decide (p=q))) w):=by
 have C:=hid (equalf_any va vb p q w ha hb)
 generalize decide (p=q)=r at C ⊢
 clear ha hb
 go_enter Tryz.func111,Tryz.ntmps111
 go_wp2_with (go_at_call 150;refine (C.out).mono ?_;rintro e w1 ⟨rfl,hb1⟩)
 go_ret
 exact ⟨rfl,hb1⟩
end Att
end Go.Proofs.YtjfmompgkkdliaaGreatDoor
