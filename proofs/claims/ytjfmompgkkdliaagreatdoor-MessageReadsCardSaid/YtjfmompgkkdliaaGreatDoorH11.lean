/- Part of the proof. -/
import Derived.Test.YtjfmompgkkdliaaGreatDoorH06
import Derived.Test.YtjfmompgkkdliaaGreatDoorH10
import Derived.Test.YtjfmompgkkdliaaGreatDoorH05
open Go.Lib (hid)
set_option maxRecDepth 100000
set_option maxHeartbeats 40000000
namespace Go.Proofs.YtjfmompgkkdliaaGreatDoor
namespace PR
open Go.RowKit Go.Sort Mem Pfx Upd
theorem take_same {l m:List Pf} {j:Nat} {p:Pf} (h:l.take j=m.take j) (hl:l[j]?=some p) (hm:m[j]?=some p):l.take (j+1)=m.take (j+1):=by
 rw [List.take_add_one,List.take_add_one,h,hl,hm]
theorem refSameP_any (v u:Value) (l m:List Pf) (w:World) (hv:Pfxs w v l) (hu:Pfxs w u m):Calls Tryz.prog 74 #[v,u] w (Tells (.bool (decide (l=m))) w):=by
 have HV:=hid hv
 have HU:=hid hu
 obtain ⟨A,c,rfl,hlc,hc⟩:=hv.form
 obtain ⟨A2,c2,rfl,hlc2,hc2⟩:=hu.form
 clear hv hu
 by_cases hlen:l.length=m.length
 case neg =>
  have y:((l.length:Int) != (m.length:Int))=true:=by simp;omega
  have HD:=hid (show decide (l=m)=false from decide_eq_false (fun e=>hlen (by rw [e])))
  rw [HD.out]
  clear hlen HD
  go_enter Tryz.func74,Tryz.ntmps74
  go_wp2
  go_ret
  exact ⟨rfl,Below.refl _ _⟩
 have y:((l.length:Int) != (m.length:Int))=false:=by simp;omega
 have hml:m.length≤l.length∧l.length≤m.length:=by omega
 clear hlen
 go_enter Tryz.func74,Tryz.ntmps74
 go_wp2
 go_loopw [5] (fun v5 wx=>∃ j:Nat,j≤l.length∧v5=.int .i64 j∧Hid (l.take j=m.take j)∧Hid (Below w.heap.size w wx)) (fun v5 _=>l.length - (intOf v5).toNat)
 case atStart=>exact ⟨0,Nat.zero_le _,rfl,hid (by simp),hid (Below.refl _ _)⟩
 case round =>
  obtain ⟨j,hj,rfl,ht,hb⟩:=hrel
  by_cases hlt:j<l.length
  ·obtain ⟨p,hp⟩:∃ p,l[j]?=some p:=⟨_,List.getElem?_eq_getElem hlt⟩
   obtain ⟨q,hq⟩:∃ q,m[j]?=some q:=⟨_,List.getElem?_eq_getElem (by omega)⟩
   obtain ⟨b,off,rfl,hbl,k0,k1⟩:=(HV.out).at_ hp
   obtain ⟨b2,off2,rfl,hbl2,k2,k3⟩:=(HU.out).at_ hq
   have c0:=(hb.out.cell (p:=⟨b,off+j*2,none⟩) hbl).trans k0
   have c1:=(hb.out.cell (p:=⟨b,off+j*2+1,none⟩) hbl).trans k1
   have c2:=(hb.out.cell (p:=⟨b2,off2+j*2,none⟩) hbl2).trans k2
   have c3:=(hb.out.cell (p:=⟨b2,off2+j*2+1,none⟩) hbl2).trans k3
   have z0:(0:Int)≤(j:Int):=by omega
   have z1:(j:Int)<(l.length:Int):=by omega
   have z2:(j:Int)<(m.length:Int):=by omega
   by_cases hpq:p=q
   ·subst hpq
    have HT:=hid (take_same ht.out hp hq)
    clear k0 k1 k2 k3 hp hq hbl hbl2
    go_wp2
    go_quiet (fail)
    go_wp2
    go_roundw
    case rel=>exact ⟨j+1,hlt,by go_num,HT,hid (hb.out.trans ((Mem.below_drewN _ _).mono hb.out.size))⟩
    case measure=>simp [intOf];omega
   ·have HD:=hid (show decide (l=m)=false from decide_eq_false (fun e=>by rw [e,hq] at hp;injection hp with hp;exact hpq hp.symm))
    obtain ⟨pa,pn⟩:=p
    obtain ⟨qa,qn⟩:=q
    clear k0 k1 k2 k3 hp hq hbl hbl2
    dsimp only at c0 c1 c2 c3
    rw [HD.out]
    by_cases ha:pa=qa
    ·have hn:¬ pn=qn:=fun e=>hpq (by rw [ha,e])
     have y1:(pn == qn)=false:=by simp [hn]
     subst ha
     clear hpq hn
     go_wp2
     go_quiet (fail)
     go_wp2
     go_ret
     exact ⟨rfl,hb.out.trans ((Mem.below_drewN _ _).mono hb.out.size)⟩
    ·have y1:((pa:Int) == (qa:Int))=false:=by simp;omega
     clear hpq ha
     go_wp2
     go_quiet (fail)
     go_wp2
     go_ret
     exact ⟨rfl,hb.out.trans ((Mem.below_drewN _ _).mono hb.out.size)⟩
  ·have HJ:=hid (show j=l.length by omega)
   have HD:=hid (show decide (l=m)=true from decide_eq_true (by
    have h1:=ht.out
    have h2:=HJ.out
    rw [h2,List.take_length,List.take_of_length_le (by omega)] at h1
    exact h1))
   have z1:decide ((j:Int)<(l.length:Int))=false:=decide_eq_false (by omega)
   go_wp2
   go_ret
   exact ⟨by rw [HD.out];rfl,hb.out⟩
end PR
namespace Upd
open Go.RowKit Mem Oct Att PR
theorem two_upds (w:World) (a b:At) (vg vp vc vh vg' vp' vc' vh':Value):BoxU ((w.alloc (.cells #[vg,.int .i64 a.has,.int .i64 a.origin,vp,.int .u32 a.hop,.int .u32 a.med,.int .u32 a.pref,.int .u32 a.aas,.int .u32 a.aid,vc,vh] 31)).alloc (.cells #[vg',.int .i64 b.has,.int .i64 b.origin,vp',.int .u32 b.hop,.int .u32 b.med,.int .u32 b.pref,.int .u32 b.aas,.int .u32 b.aid,vc',vh'] 31)) w.heap.size 31 a vg vp vc vh ∧
  BoxU ((w.alloc (.cells #[vg,.int .i64 a.has,.int .i64 a.origin,vp,.int .u32 a.hop,.int .u32 a.med,.int .u32 a.pref,.int .u32 a.aas,.int .u32 a.aid,vc,vh] 31)).alloc (.cells #[vg',.int .i64 b.has,.int .i64 b.origin,vp',.int .u32 b.hop,.int .u32 b.med,.int .u32 b.pref,.int .u32 b.aas,.int .u32 b.aid,vc',vh'] 31)) (w.heap.size+1) 31 b vg' vp' vc' vh'∧Below w.heap.size w ((w.alloc (.cells #[vg,.int .i64 a.has,.int .i64 a.origin,vp,.int .u32 a.hop,.int .u32 a.med,.int .u32 a.pref,.int .u32 a.aas,.int .u32 a.aid,vc,vh] 31)).alloc (.cells #[vg',.int .i64 b.has,.int .i64 b.origin,vp',.int .u32 b.hop,.int .u32 b.med,.int .u32 b.pref,.int .u32 b.aas,.int .u32 b.aid,vc',vh'] 31)):=by
 have h1:=BoxU.new w 31 a vg vp vc vh
 have b1:Below w.heap.size w (w.alloc (.cells #[vg,.int .i64 a.has,.int .i64 a.origin,vp,.int .u32 a.hop,.int .u32 a.med,.int .u32 a.pref,.int .u32 a.aas,.int .u32 a.aid,vc,vh] 31)):=(Below.refl _ w).alloc (Nat.le_refl _) _
 have e1:(w.alloc (.cells #[vg,.int .i64 a.has,.int .i64 a.origin,vp,.int .u32 a.hop,.int .u32 a.med,.int .u32 a.pref,.int .u32 a.aas,.int .u32 a.aid,vc,vh] 31)).heap.size=w.heap.size+1:=by simp
 have h2:=BoxU.new (w.alloc (.cells #[vg,.int .i64 a.has,.int .i64 a.origin,vp,.int .u32 a.hop,.int .u32 a.med,.int .u32 a.pref,.int .u32 a.aas,.int .u32 a.aid,vc,vh] 31)) 31 b vg' vp' vc' vh'
 rw [e1] at h2
 exact ⟨h1.keep ((Below.refl _ _).alloc (Nat.le_refl _) _),h2,b1.alloc b1.size _⟩
theorem rsame_any (va vb:Value) (a b:Up) (w:World) (ha:Upds w va a) (hb:Upds w vb b):Calls Tryz.prog 33 #[va,vb] w (Tells (.bool (sameU a b)) w):=by
 obtain ⟨vg,vp,vc,vh,rfl,hg,ht,hh⟩:=ha
 obtain ⟨vg',vp',vc',vh',rfl,hg',ht',hh'⟩:=hb
 obtain ⟨ag,a,ah⟩:=a
 obtain ⟨bg,b,bh⟩:=b
 dsimp only at hg ht hh hg' ht' hh' ⊢
 have C1:=hid (fun W (h:Below w.heap.size w W)=>refSameP_any vg vg' _ _ W (hg.keep h) (hg'.keep h))
 have C2:=hid (fun W (h:Below w.heap.size w W)=>refSameP_any vh vh' _ _ W (hh.keep h) (hh'.keep h))
 have C3:=hid (fun W (h:Below w.heap.size w W)=>refSame8 _ _ _ _ W (ht.keep h) (ht'.keep h))
 unfold sameU
 dsimp only
 unfold aV at C3
 generalize decide (ag=bg)=b1 at C1 ⊢
 generalize decide (ah=bh)=b2 at C2 ⊢
 generalize sameA a b=b3 at C3 ⊢
 have K:=hid (two_upds w a b vg vp vc vh vg' vp' vc' vh')
 obtain ⟨p0,p1,p2,p3,p4,p5,p6,p7,p8,p9,p10⟩:=K.out.1.cells
 obtain ⟨q0,q1,q2,q3,q4,q5,q6,q7,q8,q9,q10⟩:=K.out.2.1.cells
 have T0:=hid True.intro
 unfold uV
 clear hg ht hh hg' ht' hh'
 rcases b1 with _ | _
 rotate_left
 rcases b2 with _ | _
 rotate_left
 rcases b3 with _ | _
 rotate_left
 all_goals
  try simp only [Bool.true_and,Bool.false_and]
  go_enter Tryz.func33,Tryz.ntmps33
  go_wp2_with (first
   | (have tok:=T0.out;go_at_call 74;(refine (C1.out _ K.out.2.2).mono ?_;rintro e x ⟨rfl,hb⟩;replace K:=hid (And.intro (K.out.1.keep hb) (And.intro (K.out.2.1.keep hb) (K.out.2.2.trans (hb.mono K.out.2.2.size))));clear hb tok T0 p0 p1 p2 p3 p4 p5 p6 p7 p8 p9 p10 q0 q1 q2 q3 q4 q5 q6 q7 q8 q9 q10;obtain ⟨p0,p1,p2,p3,p4,p5,p6,p7,p8,p9,p10⟩:=K.out.1.cells;obtain ⟨q0,q1,q2,q3,q4,q5,q6,q7,q8,q9,q10⟩:=K.out.2.1.cells;have T1:=hid True.intro))
   | (have tok:=T1.out;go_at_call 74;(refine (C2.out _ K.out.2.2).mono ?_;rintro e x ⟨rfl,hb⟩;replace K:=hid (And.intro (K.out.1.keep hb) (And.intro (K.out.2.1.keep hb) (K.out.2.2.trans (hb.mono K.out.2.2.size))));clear hb tok T1 p0 p1 p2 p3 p4 p5 p6 p7 p8 p9 p10 q0 q1 q2 q3 q4 q5 q6 q7 q8 q9 q10;obtain ⟨p0,p1,p2,p3,p4,p5,p6,p7,p8,p9,p10⟩:=K.out.1.cells;obtain ⟨q0,q1,q2,q3,q4,q5,q6,q7,q8,q9,q10⟩:=K.out.2.1.cells;have T2:=hid True.intro))
   | (have tok:=T2.out;go_at_call 71;(refine (C3.out _ K.out.2.2).mono ?_;rintro e x ⟨rfl,hb⟩;replace K:=hid (And.intro (K.out.1.keep hb) (And.intro (K.out.2.1.keep hb) (K.out.2.2.trans (hb.mono K.out.2.2.size))));clear hb tok T2 p0 p1 p2 p3 p4 p5 p6 p7 p8 p9 p10 q0 q1 q2 q3 q4 q5 q6 q7 q8 q9 q10;obtain ⟨p0,p1,p2,p3,p4,p5,p6,p7,p8,p9,p10⟩:=K.out.1.cells;obtain ⟨q0,q1,q2,q3,q4,q5,q6,q7,q8,q9,q10⟩:=K.out.2.1.cells;have T3:=hid True.intro)))
  go_ret
  exact ⟨rfl,K.out.2.2⟩
end Upd
namespace PR
open Go.RowKit Go.Sort Mem Pfx Upd
end PR
end Go.Proofs.YtjfmompgkkdliaaGreatDoor
