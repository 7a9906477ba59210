/- Part of the proof. -/
import Derived.Test.YtjfmompgkkdliaaGreatDoorH01
import Derived.Lib.QuietBelow
open Go.Lib (hid)
set_option maxRecDepth 100000
set_option maxHeartbeats 40000000
namespace Go.Proofs.YtjfmompgkkdliaaGreatDoor
namespace Seg
open Go.RowKit Mem Rise Nums Segm
theorem same_in {W:World} {x y:Value} {a b:List Nat} (hx:U32s W x a) (hy:U32s W y b) :
  ∀ d os,Calls Tryz.prog 121 #[x,y] (Go.Sort.grow (redrawn W d) os) fun e w''=>e=.returned (.bool (decide (a=b)))∧∃ p:Regrown,w''=Go.Sort.grow (redrawn W p.d) p.os :=
 fun d os=>Calls.regrown_of (refSame_any x y a b _ (hx.keep (below_regrown W d os)) (hy.keep (below_regrown W d os)))
theorem seq_snoc {p q:List Piece} {k:Nat} (h:p.take k=q.take k) (he:p[k]?=q[k]?):p.take (k+1)=q.take (k+1):=by
 rw [List.take_add_one,List.take_add_one,h,he]
theorem far {w a b:World} (h:Below w.heap.size w a) (k:Below a.heap.size a b):Below w.heap.size w b:=Go.RowKit.Below.trans h (k.mono h.size)
theorem same_any (va vb:Value) (p q:List Piece) (w:World) (ha:Segs w va p) (hb:Segs w vb q) :
  Calls Tryz.prog 120 #[va,vb] w (Tells (.bool (decide (p=q))) w):=by
 have HA:=hid ha
 have HB:=hid hb
 obtain ⟨A,c,rfl,hlc,hc⟩:=ha.form
 obtain ⟨B,d,rfl,hld,hd⟩:=hb.form
 clear ha hb
 by_cases hl:p.length=q.length
 ·have ht:((p.length:Int) != (q.length:Int))=false:=by rw [hl];simp
  have h1:p.length≤q.length:=by omega
  have h2:q.length≤p.length:=by omega
  clear hl
  go_enter Tryz.func120,Tryz.ntmps120
  go_wp2
  go_loopw [5] (fun i wr=>∃ k:Nat,k≤p.length∧i=.int .i64 k∧Hid (p.take k=q.take k)∧Hid (Below w.heap.size w wr)) (fun i _=>p.length - (intOf i).toNat)
  case atStart=>exact ⟨0,Nat.zero_le _,rfl,by unfold Hid;simp,Below.refl _ _⟩
  case round =>
   obtain ⟨k,hk,rfl,hs,hbw⟩:=hrel
   by_cases hlt:k<p.length
   ·obtain ⟨s,hs1⟩:∃ s,p[k]?=some s:=⟨_,List.getElem?_eq_getElem hlt⟩
    obtain ⟨t,ht1⟩:∃ t,q[k]?=some t:=⟨_,List.getElem?_eq_getElem (by omega)⟩
    obtain ⟨b0,off0,x,rfl,hb0,k1,k2,hx⟩:=((HA.out).keep hbw.out).at_ hs1
    obtain ⟨b1,off1,y,rfl,hb1,m1,m2,hy⟩:=((HB.out).keep hbw.out).at_ ht1
    have z0:(0:Int)≤(k:Int):=by omega
    have z1:(k:Int)<(p.length:Int):=by omega
    have z2:(k:Int)<(q.length:Int):=by omega
    have k1':=cell_regrown k1
    have k2':=cell_regrown k2
    have m1':=cell_regrown m1
    have m2':=cell_regrown m2
    have CS:=same_in hx hy
    by_cases hk2:s.1=t.1
    ·by_cases hab:s.2=t.2
     ·have HE:=hid (seq_snoc hs.out (show p[k]?=q[k]? by rw [hs1,ht1];exact congrArg some (Prod.ext hk2 hab)))
      rw [decide_eq_true hab] at CS
      have hkk:((s.1:Int) != t.1)=false:=by rw [hk2];simp
      clear hs1 ht1 hk2 hab hx hy
      generalize s.1=ks at k1 k1' hkk
      generalize t.1=kt at m1 m1' hkk
      go_wp2_with fail
      refine wp_region_quiet_below (by kernel_rfl) (by kernel_rfl) ?_
      repeat (first | go_big_quiet_step (first | with_reducible exact CS _ _) | quiet_step (first | with_reducible exact CS _ _))
      refine wpQuiet_nil ?_
      intro _ hw'
      obtain ⟨⟨dq,osq⟩,hw''⟩:=hw'
      subst hw''
      go_wp2_with fail
      go_roundw
      case rel=>exact ⟨k+1,by omega,by go_num,HE,far hbw.out (below_regrown _ dq osq)⟩
      case measure=>simp [intOf];omega
     ·have HN:=hid (show ¬ p=q by
       intro e
       rw [e,ht1] at hs1
       injection hs1 with hs1
       exact hab (congrArg Prod.snd hs1.symm))
      rw [decide_eq_false hab] at CS
      have hkk:((s.1:Int) != t.1)=false:=by rw [hk2];simp
      clear hs1 ht1 hk2 hab hx hy
      generalize s.1=ks at k1 k1' hkk
      generalize t.1=kt at m1 m1' hkk
      go_wp2_with fail
      refine wp_region_quiet_below (by kernel_rfl) (by kernel_rfl) ?_
      repeat (first | go_big_quiet_step (first | with_reducible exact CS _ _) | quiet_step (first | with_reducible exact CS _ _))
      refine wpQuiet_nil ?_
      intro _ hw'
      obtain ⟨⟨dq,osq⟩,hw''⟩:=hw'
      subst hw''
      go_wp2_with fail
      go_ret
      exact ⟨ret_bool (decide_eq_false HN.out).symm,far hbw.out (below_regrown _ dq osq)⟩
    ·have HN:=hid (show ¬ p=q by
      intro e
      rw [e,ht1] at hs1
      injection hs1 with hs1
      exact hk2 (congrArg Prod.fst hs1.symm))
     have hkk:((s.1:Int) != t.1)=true:=by simpa using hk2
     clear hs1 ht1 hk2 hx hy CS
     generalize s.1=ks at k1 k1' hkk
     generalize t.1=kt at m1 m1' hkk
     go_wp2_with fail
     refine wp_region_quiet_below (by kernel_rfl) (by kernel_rfl) ?_
     repeat (first | go_big_quiet_step (fail) | quiet_step (fail))
     refine wpQuiet_nil ?_
     intro _ hw'
     obtain ⟨⟨dq,osq⟩,hw''⟩:=hw'
     subst hw''
     go_wp2_with fail
     go_ret
     exact ⟨ret_bool (decide_eq_false HN.out).symm,far hbw.out (below_regrown _ dq osq)⟩
   ·have HK:=hid (show p=q by
     have:=hs.out
     rwa [List.take_of_length_le (by omega),List.take_of_length_le (by omega)] at this)
    go_wp2
    go_ret
    exact ⟨ret_bool (decide_eq_true HK.out).symm,hbw.out⟩
 ·have ht:((p.length:Int) != (q.length:Int))=true:=by simp;omega
  have HN:=hid (show ¬ p=q from fun e=>hl (by rw [e]))
  clear hl
  go_enter Tryz.func120,Tryz.ntmps120
  go_wp2
  go_ret
  exact ⟨ret_bool (decide_eq_false HN.out).symm,Below.refl _ _⟩
end Seg
namespace Att
open Go.RowKit Mem Rise Nums Segm
end Att
end Go.Proofs.YtjfmompgkkdliaaGreatDoor
