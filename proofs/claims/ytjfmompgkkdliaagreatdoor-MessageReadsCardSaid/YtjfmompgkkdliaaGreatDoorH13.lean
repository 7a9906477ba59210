/- Part of the proof. -/
import Derived.Test.YtjfmompgkkdliaaGreatDoorH04
import Derived.Deep.DeepCutAuto
import Derived.Deep.CutBlock
open Go.Lib (hid)
set_option maxRecDepth 100000
set_option maxHeartbeats 40000000
namespace Go.Proofs.YtjfmompgkkdliaaGreatDoor
namespace Opn
open Go.RowKit Mem Oct Att
structure DeSt (w0:World) (n br:Nat) (x:Rd) (o:Op) (W:World):Prop where
 r0:Rd0 w0 W
 bo:Box4 W (w0.heap.size+1+1) 24 (.int .u32 o.an) (.int .i64 o.hold) (.int .u32 o.ri) (.bool o.four)
 bn:Box3 W (w0.heap.size+1+1+1) 34 (.int .i64 0) (.int .i64 0) (.slice none 0 0)
 rd:R W (w0.heap.size+4) n (.pointer (some ⟨br,0,none⟩)) x.l x.b (fun k=>k=br)
section
variable {w0 W W2:World} {n br:Nat} {x y:Rd} {o:Op}
theorem DeSt.ge (h:DeSt w0 n br x o W):w0.heap.size+4≤br:=(h.rd.low br rfl).1
theorem DeSt.below (h:DeSt w0 n br x o W) (hb:Below W.heap.size W W2):DeSt w0 n br x o W2:=⟨h.r0.below hb,h.bo.keep hb,h.bn.keep hb,h.rd.below hb⟩
theorem DeSt.read (h:DeSt w0 n br x o W) (hr:R W2 (w0.heap.size+4) n (.pointer (some ⟨br,0,none⟩)) y.l y.b (fun k=>k=br)) (ho:Only (fun k=>k=br) W W2):DeSt w0 n br y o W2:=by
 have hg:=h.ge
 exact ⟨⟨⟨(ho.block _ h.r0.r4.lt (by omega)).trans h.r0.r4.blk⟩,⟨(ho.block _ h.r0.r3.lt (by omega)).trans h.r0.r3.blk⟩,h.r0.low.trans (ho.below (fun k hk=>by omega) h.r0.low.size)⟩,⟨(ho.block _ h.bo.lt (by omega)).trans h.bo.blk⟩,⟨(ho.block _ h.bn.lt (by omega)).trans h.bn.blk⟩,hr⟩
theorem DeSt.no8 (h:DeSt w0 n br x o W):∀ i k,W.cell? ⟨w0.heap.size+1+1,i,none⟩≠some (.int .u8 k):=h.bo.no8 (no8_u _) (no8_i _) (no8_u _) (no8_b _)
theorem rd0_set {w0 W:World} (h:Rd0 w0 W) (i:Nat) (u:Value):Rd0 w0 (W.setCell ⟨w0.heap.size+1+1,i,none⟩ u) :=
 ⟨h.r4.far (by omega) _,h.r3.far (by omega) _,h.low.setCell (p:=⟨w0.heap.size+1+1,i,none⟩) (by show w0.heap.size≤w0.heap.size+1+1;omega) _⟩
theorem DeSt.set0 (h:DeSt w0 n br x o W) (a:Nat):DeSt w0 n br x ⟨a,o.hold,o.ri,o.four⟩ (W.setCell ⟨w0.heap.size+1+1,0,none⟩ (.int .u32 a)) :=
 ⟨rd0_set h.r0 _ _,h.bo.set0 _,h.bn.far (by omega) _,R_apart h.rd h.no8 (fun e=>by have:=h.ge;omega) (set_off W _ 0 _).1 (set_off W _ 0 _).2⟩
theorem DeSt.set1 (h:DeSt w0 n br x o W) (a:Int):DeSt w0 n br x ⟨o.an,a,o.ri,o.four⟩ (W.setCell ⟨w0.heap.size+1+1,1,none⟩ (.int .i64 a)) :=
 ⟨rd0_set h.r0 _ _,h.bo.set1 _,h.bn.far (by omega) _,R_apart h.rd h.no8 (fun e=>by have:=h.ge;omega) (set_off W _ 1 _).1 (set_off W _ 1 _).2⟩
theorem DeSt.set2 (h:DeSt w0 n br x o W) (a:Nat):DeSt w0 n br x ⟨o.an,o.hold,a,o.four⟩ (W.setCell ⟨w0.heap.size+1+1,2,none⟩ (.int .u32 a)) :=
 ⟨rd0_set h.r0 _ _,h.bo.set2 _,h.bn.far (by omega) _,R_apart h.rd h.no8 (fun e=>by have:=h.ge;omega) (set_off W _ 2 _).1 (set_off W _ 2 _).2⟩
end
theorem DeSt.only {w0 W W2:World} {n br:Nat} {x:Rd} {o:Op} (h:DeSt w0 n br x o W) (ho:Only (fun k=>k=br∨k=w0.heap.size+1+1) W W2):Rd0 w0 W2∧Box3 W2 (w0.heap.size+1+1+1) 34 (.int .i64 0) (.int .i64 0) (.slice none 0 0):=by
 have hg:=h.ge
 exact ⟨⟨⟨(ho.block _ h.r0.r4.lt (by omega)).trans h.r0.r4.blk⟩,⟨(ho.block _ h.r0.r3.lt (by omega)).trans h.r0.r3.blk⟩,h.r0.low.trans (ho.below (fun k hk=>by omega) h.r0.low.size)⟩,⟨(ho.block _ h.bn.lt (by omega)).trans h.bn.blk⟩⟩
theorem end_fin {b:List Nat} {w W:World} {s:Nat} {A:Option Addr} {m c:Nat} (h0:Rd0 w W) (hd:outO (decO b)=(zeroO,noO s)) (hn:Note W (.agg #[.int .i64 2,.int .i64 s,.slice A m c]) (noO s)) :
  DecF9 b w (.returned (.tuple #[.agg #[.int .u32 0,.int .i64 0,.int .u32 0,.bool false],.agg #[.int .i64 2,.int .i64 s,.slice A m c]])) (ends w W (.int .u32 0) (.int .i64 0) (.int .u32 0) (.bool false) (.int .i64 2) (.int .i64 s) (.slice A m c)).drew:=by
 have ho1:=four_off W w.heap.size (.int .u32 0) (.int .i64 0) (.int .u32 0) (.bool false)
 have ho2:=three_off (four W w.heap.size (.int .u32 0) (.int .i64 0) (.int .u32 0) (.bool false)) (w.heap.size+1) (.int .i64 2) (.int .i64 s) (.slice A m c)
 obtain ⟨g1,g2,vd,g3,g4⟩:=hn
 injection g3 with g3
 have g5:vd=.slice A m c:=by
  have:=congrArg (fun a:Array Value=>a[2]?) g3
  simpa using this.symm
 subst g5
 unfold DecF9
 rw [hd]
 have hb:=(h0.fin (.int .u32 0) (.int .i64 0) (.int .u32 0) (.bool false) (.int .i64 2) (.int .i64 s) (.slice A m c)).2.2
 have kd:Below (ends w W (.int .u32 0) (.int .i64 0) (.int .u32 0) (.bool false) (.int .i64 2) (.int .i64 s) (.slice A m c)).heap.size (ends w W (.int .u32 0) (.int .i64 0) (.int .u32 0) (.bool false) (.int .i64 2) (.int .i64 s) (.slice A m c)) (ends w W (.int .u32 0) (.int .i64 0) (.int .u32 0) (.bool false) (.int .i64 2) (.int .i64 s) (.slice A m c)).drew:=(Below.refl _ _).drew
 exact ⟨_,rfl,⟨g1,g2,_,rfl,(u8_apart (u8_apart g4 (h0.r4.no8 (no8_u _) (no8_i _) (no8_u _) (no8_b _)) ho1.1 ho1.2) ((h0.mid (.int .u32 0) (.int .i64 0) (.int .u32 0) (.bool false)).no8 (no8_i _) (no8_i _) (no8_s _ _ _)) ho2.1 ho2.2).keep kd⟩,hb.trans (kd.mono hb.size)⟩
theorem end_good {b:List Nat} {w W:World} {o:Op} (h0:Rd0 w W) (hd:outO (decO b)=(o,⟨0,0,[]⟩)) :
  DecF9 b w (.returned (.tuple #[.agg #[.int .u32 o.an,.int .i64 o.hold,.int .u32 o.ri,.bool o.four],.agg #[.int .i64 0,.int .i64 0,.slice none 0 0]])) (ends w W (.int .u32 o.an) (.int .i64 o.hold) (.int .u32 o.ri) (.bool o.four) (.int .i64 0) (.int .i64 0) (.slice none 0 0)).drew:=by
 unfold DecF9
 rw [hd]
 have hb:=(h0.fin (.int .u32 o.an) (.int .i64 o.hold) (.int .u32 o.ri) (.bool o.four) (.int .i64 0) (.int .i64 0) (.slice none 0 0)).2.2
 have kd:Below (ends w W (.int .u32 o.an) (.int .i64 o.hold) (.int .u32 o.ri) (.bool o.four) (.int .i64 0) (.int .i64 0) (.slice none 0 0)).heap.size _ (ends w W (.int .u32 o.an) (.int .i64 o.hold) (.int .u32 o.ri) (.bool o.four) (.int .i64 0) (.int .i64 0) (.slice none 0 0)).drew:=(Below.refl _ _).drew
 exact ⟨_,rfl,⟨show (Lit.int .i64 0).wf=true by decide,show (Lit.int .i64 0).wf=true by decide,_,rfl,U8s.nil _⟩,hb.trans (kd.mono hb.size)⟩
theorem de_boxes (w:World):let W:=(((w.alloc (.cells #[.int .u32 0,.int .i64 0,.int .u32 0,.bool false] 24)).alloc (.cells #[.int .i64 0,.int .i64 0,.slice none 0 0] 34)).alloc (.cells #[.int .u32 0,.int .i64 0,.int .u32 0,.bool false] 24)).alloc (.cells #[.int .i64 0,.int .i64 0,.slice none 0 0] 34)
  W.heap.size=w.heap.size+4∧Rd0 w W∧Box4 W (w.heap.size+1+1) 24 (.int .u32 0) (.int .i64 0) (.int .u32 0) (.bool false)∧Box3 W (w.heap.size+1+1+1) 34 (.int .i64 0) (.int .i64 0) (.slice none 0 0):=by
 intro W
 have h:=rd0_start w
 have e:((w.alloc (.cells #[.int .u32 0,.int .i64 0,.int .u32 0,.bool false] 24)).alloc (.cells #[.int .i64 0,.int .i64 0,.slice none 0 0] 34)).heap.size=w.heap.size+1+1:=by simp
 obtain ⟨W1,hW1⟩:∃ W1,W1=(w.alloc (.cells #[.int .u32 0,.int .i64 0,.int .u32 0,.bool false] 24)).alloc (.cells #[.int .i64 0,.int .i64 0,.slice none 0 0] 34):=⟨_,rfl⟩
 have hW:W=(W1.alloc (.cells #[.int .u32 0,.int .i64 0,.int .u32 0,.bool false] 24)).alloc (.cells #[.int .i64 0,.int .i64 0,.slice none 0 0] 34):=by rw [hW1]
 rw [← hW1] at h e
 clear hW1
 rw [hW]
 have h2:=Box4.new W1 24 (.int .u32 0) (.int .i64 0) (.int .u32 0) (.bool false)
 have b2:Below W1.heap.size W1 (W1.alloc (.cells #[.int .u32 0,.int .i64 0,.int .u32 0,.bool false] 24)):=(Below.refl _ _).alloc (Nat.le_refl _) _
 have e2:(W1.alloc (.cells #[.int .u32 0,.int .i64 0,.int .u32 0,.bool false] 24)).heap.size=w.heap.size+1+1+1:=by simp [e]
 have h3:=Box3.new (W1.alloc (.cells #[.int .u32 0,.int .i64 0,.int .u32 0,.bool false] 24)) 34 (.int .i64 0) (.int .i64 0) (.slice none 0 0)
 have b3:Below (W1.alloc (.cells #[.int .u32 0,.int .i64 0,.int .u32 0,.bool false] 24)).heap.size _ ((W1.alloc (.cells #[.int .u32 0,.int .i64 0,.int .u32 0,.bool false] 24)).alloc (.cells #[.int .i64 0,.int .i64 0,.slice none 0 0] 34)):=(Below.refl _ _).alloc (Nat.le_refl _) _
 rw [e] at h2
 rw [e2] at h3
 exact ⟨by simp [e],(h.below b2).below b3,h2.keep b3,h3⟩
theorem take_one {l:List Nat} {i y:Nat} (h:l[i]?=some y):val ((l.drop i).take 1)=y:=by
 obtain ⟨h1,h2⟩:=List.getElem?_eq_some_iff.1 h
 rw [List.drop_eq_getElem_cons h1,h2]
 show 0*256+y=y
 omega
theorem rd_head (b:List Nat):(b.length<10→((((((Rd.mk b false).go 1).go 2).go 2).go 4).go 1).b=true) ∧
  (10≤b.length→(((((Rd.mk b false).go 1).go 2).go 2).go 4).go 1=⟨b.drop 10,false⟩∧b[0]?=some ((Rd.mk b false).num 1) ∧
   headO b=⟨((Rd.mk b false).go 1).num 2,((((Rd.mk b false).go 1).go 2).num 2:Nat),((((Rd.mk b false).go 1).go 2).go 2).num 4,false⟩∧b[9]?=some ((((((Rd.mk b false).go 1).go 2).go 2).go 4).num 1)):=by
 have step:∀ (i k:Nat),i+k≤b.length→(Rd.mk (b.drop i) false).go (k:Nat)=⟨b.drop (i+k),false⟩∧(Rd.mk (b.drop i) false).num (k:Nat)=val ((b.drop i).take k):=fun i k h=>by
  obtain ⟨g1,g2⟩:=fit_go (l:=b.drop i) (n:=k) (by rw [List.length_drop];omega)
  exact ⟨by rw [g1,List.drop_drop],congrArg val g2⟩
 have short:∀ (i k:Nat),i≤b.length→b.length<i+k→((Rd.mk (b.drop i) false).go (k:Nat)).b=true:=fun i k h0 h=>(go_short (by rw [List.length_drop];omega)).1
 constructor
 ·intro h
  by_cases h1:0+1≤b.length
  ·have e1:(Rd.mk b false).go 1=⟨b.drop 1,false⟩:=(step 0 1 h1).1
   rw [e1]
   by_cases h2:1+2≤b.length
   ·have e2:(Rd.mk (b.drop 1) false).go 2=⟨b.drop 3,false⟩:=(step 1 2 h2).1
    rw [e2]
    by_cases h3:3+2≤b.length
    ·have e3:(Rd.mk (b.drop 3) false).go 2=⟨b.drop 5,false⟩:=(step 3 2 h3).1
     rw [e3]
     by_cases h4:5+4≤b.length
     ·have e4:(Rd.mk (b.drop 5) false).go 4=⟨b.drop 9,false⟩:=(step 5 4 h4).1
      rw [e4]
      exact short 9 1 (by omega) (by omega)
     ·exact go_bad (short 5 4 (by omega) (by omega)) _
    ·exact go_bad (go_bad (short 3 2 (by omega) (by omega)) _) _
   ·exact go_bad (go_bad (go_bad (short 1 2 (by omega) (by omega)) _) _) _
  ·exact go_bad (go_bad (go_bad (go_bad (short 0 1 (by omega) (by omega)) _) _) _) _
 ·intro h
  have e1:(Rd.mk b false).go 1=⟨b.drop 1,false⟩:=(step 0 1 (by omega)).1
  have e2:(Rd.mk (b.drop 1) false).go 2=⟨b.drop 3,false⟩:=(step 1 2 (by omega)).1
  have e3:(Rd.mk (b.drop 3) false).go 2=⟨b.drop 5,false⟩:=(step 3 2 (by omega)).1
  have e4:(Rd.mk (b.drop 5) false).go 4=⟨b.drop 9,false⟩:=(step 5 4 (by omega)).1
  have e5:(Rd.mk (b.drop 9) false).go 1=⟨b.drop 10,false⟩:=(step 9 1 (by omega)).1
  have n1:(Rd.mk b false).num 1=val ((b.drop 0).take 1):=(step 0 1 (by omega)).2
  have n2:(Rd.mk (b.drop 1) false).num 2=val ((b.drop 1).take 2):=(step 1 2 (by omega)).2
  have n3:(Rd.mk (b.drop 3) false).num 2=val ((b.drop 3).take 2):=(step 3 2 (by omega)).2
  have n4:(Rd.mk (b.drop 5) false).num 4=val ((b.drop 5).take 4):=(step 5 4 (by omega)).2
  have n5:(Rd.mk (b.drop 9) false).num 1=val ((b.drop 9).take 1):=(step 9 1 (by omega)).2
  obtain ⟨y0,hy0⟩:∃ y,b[0]?=some y:=⟨_,List.getElem?_eq_getElem (by omega)⟩
  obtain ⟨y9,hy9⟩:∃ y,b[9]?=some y:=⟨_,List.getElem?_eq_getElem (by omega)⟩
  rw [e1,e2,e3,e4,e5,n1,n2,n3,n4,n5,take_one hy0,take_one hy9]
  exact ⟨rfl,hy0,rfl,hy9⟩
def EndO (b:List Nat) (w W:World):Prop :=
 Rd0 w W∧((∃ (s:Nat) (A:Option Addr) (m c:Nat),0<s+1∧outO (decO b)=(zeroO,noO s)∧Box3 W (w.heap.size+1+1+1) 34 (.int .i64 2) (.int .i64 s) (.slice A m c)∧Note W (.agg #[.int .i64 2,.int .i64 s,.slice A m c]) (noO s)) ∨
  ∃ o:Op,outO (decO b)=(o,⟨0,0,[]⟩)∧Box3 W (w.heap.size+1+1+1) 34 (.int .i64 0) (.int .i64 0) (.slice none 0 0)∧Box4 W (w.heap.size+1+1) 24 (.int .u32 o.an) (.int .i64 o.hold) (.int .u32 o.ri) (.bool o.four))
theorem rd0_three {w W:World} (h:Rd0 w W) (x y z:Value):Rd0 w (three W (w.heap.size+1+1+1) x y z):=by
 have ho:=three_off W (w.heap.size+1+1+1) x y z
 exact ⟨⟨(ho.1 _ (by omega)).trans h.r4.blk⟩,⟨(ho.1 _ (by omega)).trans h.r3.blk⟩,three_low h.low _ (by omega) _ _ _⟩
theorem end_bad {b:List Nat} {w W:World} {s:Nat} {si:Int} (h0:Rd0 w W) (hb:Box3 W (w.heap.size+1+1+1) 34 (.int .i64 0) (.int .i64 0) (.slice none 0 0)) (hd:decO b=.inl s) (hs:s≠1) (hi:si=(s:Int)) (hl:(s:Int)≤255):EndO b w (three W (w.heap.size+1+1+1) (.int .i64 2) (.int .i64 si) (.slice none 0 0)):=by
 subst hi
 refine ⟨rd0_three h0 _ _ _,.inl ⟨s,none,0,0,by omega,by rw [hd];rfl,hb.laid _ _ _,?_⟩⟩
 refine ⟨show (Lit.int .i64 2).wf=true by decide,show (Lit.int .i64 (s:Int)).wf=true by simp [Lit.wf,IntKind.min,IntKind.max,IntKind.signed,IntKind.bits];omega,_,rfl,?_⟩
 show U8s _ _ (if s=1 then [0,4] else [])
 rw [if_neg hs]
 exact U8s.nil _
theorem end_one {b:List Nat} {w W:World} {A:Option Addr} {c:Nat} (h0:Rd0 w W) (hb:Box3 W (w.heap.size+1+1+1) 34 (.int .i64 0) (.int .i64 0) (.slice none 0 0)) (hd:decO b=.inl 1) (hU:U8s W (.slice A 2 c) [0,4]):EndO b w (three W (w.heap.size+1+1+1) (.int .i64 2) (.int .i64 1) (.slice A 2 c)):=by
 have ho:=three_off W (w.heap.size+1+1+1) (.int .i64 2) (.int .i64 1) (.slice A 2 c)
 exact ⟨rd0_three h0 _ _ _,.inl ⟨1,A,2,c,by omega,by rw [hd];rfl,hb.laid _ _ _,show (Lit.int .i64 2).wf=true by decide,show (Lit.int .i64 ((1:Nat):Int)).wf=true by decide,_,rfl,u8_apart hU (hb.no8 (no8_i _) (no8_i _) (no8_s _ _ _)) ho.1 ho.2⟩⟩
theorem end_ok {b:List Nat} {w W:World} {o:Op} (h0:Rd0 w W) (hb:Box3 W (w.heap.size+1+1+1) 34 (.int .i64 0) (.int .i64 0) (.slice none 0 0)) (hd:decO b=.inr o) (hB:Box4 W (w.heap.size+1+1) 24 (.int .u32 o.an) (.int .i64 o.hold) (.int .u32 o.ri) (.bool o.four)):EndO b w (three W (w.heap.size+1+1+1) (.int .i64 0) (.int .i64 0) (.slice none 0 0)):=by
 have ho:=three_off W (w.heap.size+1+1+1) (.int .i64 0) (.int .i64 0) (.slice none 0 0)
 exact ⟨rd0_three h0 _ _ _,.inr ⟨o,by rw [hd];rfl,hb.laid _ _ _,⟨(ho.1 _ (by omega)).trans hB.blk⟩⟩⟩
end Opn
namespace Opn
open Go.RowKit Mem Oct Att
open Go.Lib (hid)
theorem decode_p (v:Value) (b:List Nat) (w:World) (hv:U8s w v b) (hl:b.length≤5000):Calls Tryz.prog 46 #[v] w (DecF9 b w):=by
 obtain ⟨D1,D2,D3,D4⟩:=de_boxes w
 have HSb:=hid hv.2
 have CN:=hid (new_any v b _ (hv.keep D2.low) (by omega))
 have D0:=hid (And.intro D1 (And.intro D2 (And.intro D3 D4)))
 have CF:=hid fault_any
 have CB:=hid bad_any
 obtain ⟨x0,h0⟩:∃ x,x=Rd.mk b false:=⟨_,rfl⟩
 obtain ⟨gv,hgv⟩:∃ n,n=x0.num 1:=⟨_,rfl⟩
 obtain ⟨x1,h1⟩:∃ x,x=x0.go 1:=⟨_,rfl⟩
 have HS0:=hid (show Small x0.l from by rw [h0];exact HSb.out)
 obtain ⟨na,hna⟩:∃ n,n=x1.num 2:=⟨_,rfl⟩
 obtain ⟨x2,h2⟩:∃ x,x=x1.go 2:=⟨_,rfl⟩
 have HS1:=hid (show Small x1.l from by rw [h1];exact Rd.small HS0.out _)
 obtain ⟨nh,hnh⟩:∃ n,n=x2.num 2:=⟨_,rfl⟩
 obtain ⟨x3,h3⟩:∃ x,x=x2.go 2:=⟨_,rfl⟩
 have HS2:=hid (show Small x2.l from by rw [h2];exact Rd.small HS1.out _)
 obtain ⟨nr,hnr⟩:∃ n,n=x3.num 4:=⟨_,rfl⟩
 obtain ⟨x4,h4⟩:∃ x,x=x3.go 4:=⟨_,rfl⟩
 have HS3:=hid (show Small x3.l from by rw [h3];exact Rd.small HS2.out _)
 obtain ⟨nz,hnz⟩:∃ n,n=x4.num 1:=⟨_,rfl⟩
 obtain ⟨x5,h5⟩:∃ x,x=x4.go 1:=⟨_,rfl⟩
 have HS4:=hid (show Small x4.l from by rw [h4];exact Rd.small HS3.out _)
 have C1:=hid (fun n br W (h:R W (w.heap.size+4) n (.pointer (some ⟨br,0,none⟩)) x0.l x0.b (fun k=>k=br))=>show Calls Tryz.prog 82 #[.pointer (some ⟨br,0,none⟩)] W (fun e w'=>e=.returned (.int .i64 gv)∧R w' (w.heap.size+4) n (.pointer (some ⟨br,0,none⟩)) x1.l x1.b (fun k=>k=br)∧Only (fun k=>k=br) W w') from by
  rw [hgv,h1]
  exact u8_any _ _ n x0.l x0.b _ W HS0.out h)
 have C2:=hid (fun n br W (h:R W (w.heap.size+4) n (.pointer (some ⟨br,0,none⟩)) x1.l x1.b (fun k=>k=br))=>show Calls Tryz.prog 83 #[.pointer (some ⟨br,0,none⟩)] W (fun e w'=>e=.returned (.int .i64 na)∧R w' (w.heap.size+4) n (.pointer (some ⟨br,0,none⟩)) x2.l x2.b (fun k=>k=br)∧Only (fun k=>k=br) W w') from by
  rw [hna,h2]
  exact u16_any _ _ n x1.l x1.b _ W HS1.out h)
 have C3:=hid (fun n br W (h:R W (w.heap.size+4) n (.pointer (some ⟨br,0,none⟩)) x2.l x2.b (fun k=>k=br))=>show Calls Tryz.prog 83 #[.pointer (some ⟨br,0,none⟩)] W (fun e w'=>e=.returned (.int .i64 nh)∧R w' (w.heap.size+4) n (.pointer (some ⟨br,0,none⟩)) x3.l x3.b (fun k=>k=br)∧Only (fun k=>k=br) W w') from by
  rw [hnh,h3]
  exact u16_any _ _ n x2.l x2.b _ W HS2.out h)
 have C4:=hid (fun n br W (h:R W (w.heap.size+4) n (.pointer (some ⟨br,0,none⟩)) x3.l x3.b (fun k=>k=br))=>show Calls Tryz.prog 84 #[.pointer (some ⟨br,0,none⟩)] W (fun e w'=>e=.returned (.int .u32 nr)∧R w' (w.heap.size+4) n (.pointer (some ⟨br,0,none⟩)) x4.l x4.b (fun k=>k=br)∧Only (fun k=>k=br) W w') from by
  rw [hnr,h4]
  exact u32_any _ _ n x3.l x3.b _ W HS3.out h)
 have C5:=hid (fun n br W (h:R W (w.heap.size+4) n (.pointer (some ⟨br,0,none⟩)) x4.l x4.b (fun k=>k=br))=>show Calls Tryz.prog 82 #[.pointer (some ⟨br,0,none⟩)] W (fun e w'=>e=.returned (.int .i64 nz)∧R w' (w.heap.size+4) n (.pointer (some ⟨br,0,none⟩)) x5.l x5.b (fun k=>k=br)∧Only (fun k=>k=br) W w') from by
  rw [hnz,h5]
  exact u8_any _ _ n x4.l x4.b _ W HS4.out h)
 have hna4:na<65536:=by rw [hna];exact num_lt HS1.out 2
 have wa:IntKind.u32.wrap (na:Int)=(na:Int):=by rw [IntKind.wrap_u32];omega
 have CHo:=hid (fun W=>pholds_any (nh:Int) W)
 have HX:=hid (show x0=⟨b,false⟩∧gv=x0.num 1∧x1=x0.go 1∧na=x1.num 2∧x2=x1.go 2∧nh=x2.num 2∧x3=x2.go 2∧nr=x3.num 4∧x4=x3.go 4∧nz=x4.num 1∧x5=x4.go 1 from ⟨h0,hgv,h1,hna,h2,hnh,h3,hnr,h4,hnz,h5⟩)
 clear D1 D2 D3 D4 hv h0 hgv h1 hna h2 hnh h3 hnr h4 hnz h5
 go_enter Tryz.func46,Tryz.ntmps46
 go_upto_block 0 with (first
  | (have h:=D0.out;go_at_call 81;(refine (CN.out).mono ?_;rintro e z0 ⟨br,rfl,hR,hb⟩;rw [h.1] at hR;have T0:=hid (DeSt.mk (x:=x0) (o:=zeroO) (h.2.1.below hb) (h.2.2.1.keep hb) (h.2.2.2.keep hb) (by rw [HX.out.1];exact hR));clear hR hb h D0))
  | (have h:=T0.out;go_at_call 82;(refine (C1.out _ _ _ h.rd).mono ?_;rintro e z ⟨rfl,hR,ho⟩;have T1:=hid (h.read (y:=x1) hR ho);clear hR ho h T0;skip))
  | (have h:=T1.out;go_at_call 83;(refine (C2.out _ _ _ h.rd).mono ?_;rintro e z ⟨rfl,hR,ho⟩;have T2:=hid (h.read (y:=x2) hR ho);clear hR ho h T1;(try clear c0 c1 c2 c3 fo);obtain ⟨c0,c1,c2,c3⟩:=T2.out.bo.cells;have fo:=T2.out.bo.free;have V2:=hid (T2.out.set0 na)))
  | (have h:=V2.out;go_at_call 83;(refine (C3.out _ _ _ h.rd).mono ?_;rintro e z ⟨rfl,hR,ho⟩;have T3:=hid (h.read (y:=x3) hR ho);clear hR ho h V2;(try clear c0 c1 c2 c3 fo);obtain ⟨c0,c1,c2,c3⟩:=T3.out.bo.cells;have fo:=T3.out.bo.free;have V3:=hid (T3.out.set1 nh)))
  | (have h:=V3.out;go_at_call 84;(refine (C4.out _ _ _ h.rd).mono ?_;rintro e z ⟨rfl,hR,ho⟩;have T4:=hid (h.read (y:=x4) hR ho);clear hR ho h V3;(try clear c0 c1 c2 c3 fo);obtain ⟨c0,c1,c2,c3⟩:=T4.out.bo.cells;have fo:=T4.out.bo.free;have V4:=hid (T4.out.set2 nr)))
  | (have h:=V4.out;go_at_call 82;(refine (C5.out _ _ _ h.rd).mono ?_;rintro e z ⟨rfl,hR,ho⟩;have T5:=hid (h.read (y:=x5) hR ho);clear hR ho h V4;(try clear c0 c1 c2 c3 fo);obtain ⟨c0,c1,c2,c3⟩:=T5.out.bo.cells;have fo:=T5.out.bo.free)))
 go_cut [] (fun wx=>Hid (EndO b w wx))
 case first =>
  obtain ⟨p1,p2⟩:=rd_head b
  have HDC:=hid (decO_is b)
  obtain ⟨e0,eg,e1,ea,e2,eh,e3,er,e4,ez,e5⟩:=HX.out
  rw [e0] at eg e1
  rw [e1] at ea e2
  rw [e2] at eh e3
  rw [e3] at er e4
  rw [e4] at ez e5
  rw [← e5,← eg,← ea,← eh,← er,← ez] at p2
  rw [← e5] at p1
  clear e0 eg e1 ea e2 eh e3 er e4 ez e5 HX
  clear C1 C2 C3 C4 C5 HS0 HS1 HS2 HS3
  rcases Nat.lt_or_ge b.length 10 with hl10 | hl10
  focus
   have HD:=hid (show decO b=.inl 0 from by rw [HDC.out,if_pos hl10])
   have hb5:=p1 hl10
   have CBx:=hid (fun W (h:R W (w.heap.size+4) z0.heap.size (.pointer (some ⟨br,0,none⟩)) x5.l x5.b (fun k=>k=br))=>show Calls Tryz.prog 85 #[.pointer (some ⟨br,0,none⟩)] W (Tells (.bool true) W) from by
    have h2:=CB.out _ _ _ _ _ _ W h
    rw [hb5] at h2
    exact h2)
   clear p1 p2 hb5 hl10 hl
  rotate_left
  obtain ⟨e5,hb0,hH,hb9⟩:=p2 hl10
  clear p1 p2
  have CBx:=hid (fun W (h:R W (w.heap.size+4) z0.heap.size (.pointer (some ⟨br,0,none⟩)) x5.l x5.b (fun k=>k=br))=>show Calls Tryz.prog 85 #[.pointer (some ⟨br,0,none⟩)] W (Tells (.bool false) W) from by
   have h2:=CB.out _ _ _ _ _ _ W h
   rw [e5] at h2
   exact h2)
  rw [if_neg (by omega),hH,hb0,hb9] at HDC
  dsimp only at HDC
  by_cases g0:gv=4
  rotate_left
  focus
   have y0:((gv:Int) != 4)=true:=by simp;omega
   have HD:=hid (show decO b=.inl 1 from by rw [HDC.out,if_pos (by simpa using g0)])
   have KU:=hid True.intro
   clear g0 hb0 hb9 hH e5 hl10 hl
  rotate_left 2
  subst g0
  have y0:(((4:Nat):Int) != 4)=false:=by decide
  rw [if_neg (by simp)] at HDC
  by_cases g1:na=0
  focus
   have y1:((na:Int) == 0)=true:=by simp [g1]
   have HD:=hid (show decO b=.inl 2 from by rw [HDC.out,if_pos g1])
   clear g1 hb0 hb9 hH e5 hl10 hl
  rotate_left
  have y1:((na:Int) == 0)=false:=by simp;omega
  rw [if_neg g1] at HDC
  clear g1
  cases hh:holdsB (nh:Int)
  focus
   rw [hh] at CHo
   have HD:=hid (show decO b=.inl 6 from by rw [HDC.out,if_pos hh])
   clear hh hb0 hb9 hH e5 hl10 hl
  rotate_left
  rw [hh] at CHo
  rw [if_neg (by rw [hh];decide)] at HDC
  clear hh
  by_cases g3:nr=0
  focus
   have y3:((nr:Int) == 0)=true:=by simp [g3]
   have HD:=hid (show decO b=.inl 3 from by rw [HDC.out,if_pos g3])
   clear g3 hb0 hb9 hH e5 hl10 hl
  rotate_left
  have y3:((nr:Int) == 0)=false:=by simp;omega
  rw [if_neg g3] at HDC
  clear g3
  have CLx:=hid (fun W (h:R W (w.heap.size+4) z0.heap.size (.pointer (some ⟨br,0,none⟩)) x5.l x5.b (fun k=>k=br))=>show Calls Tryz.prog 87 #[.pointer (some ⟨br,0,none⟩)] W (Tells (.int .i64 ((b.length - 10:Nat):Int)) W) from by
   have h2:=left_any _ _ _ _ _ _ W h
   rw [e5] at h2
   rw [show (Rd.mk (b.drop 10) false).l.length=b.length - 10 from List.length_drop] at h2
   exact h2)
  by_cases g4:nz=b.length - 10
  rotate_left
  focus
   obtain ⟨L,hL⟩:∃ L,L=b.length - 10:=⟨_,rfl⟩
   rw [← hL] at CLx g4
   have y4:((nz:Int) != (L:Int))=true:=by simp;omega
   have HD:=hid (show decO b=.inl 0 from by rw [HDC.out,if_pos (by rw [← hL];simpa using g4)])
   clear g4 hb0 hb9 hH e5 hl10 hl hL
  rotate_left 6
  rw [← g4] at CLx
  have y4:((nz:Int) != (nz:Int))=false:=by simp
  rw [if_neg (by rw [← g4];simp)] at HDC
  have HS10:=hid (show Small (b.drop 10) from HSb.out.drop 10)
  clear g4 hb0 hb9 hH hl10 hl
  have CR:=hid (fun W (h:DeSt w z0.heap.size br x5 ⟨na,(nh:Nat),nr,false⟩ W)=>read_any (w.heap.size+4) z0.heap.size br (w.heap.size+1+1) (b.drop 10) ⟨na,(nh:Nat),nr,false⟩ W HS10.out (by have h2:=h.rd;rw [e5] at h2;exact h2) h.bo (R_lt h.rd) (by have:=h.ge;omega))
  clear e5
  cases hp:pars ⟨na,(nh:Nat),nr,false⟩ (b.drop 10)
  focus
   rename_i s
   have HD:=hid (show decO b=.inl s from HDC.out.trans hp)
   have CRx:=hid (fun W (h:DeSt w z0.heap.size br x5 ⟨na,(nh:Nat),nr,false⟩ W)=>show Calls Tryz.prog 88 #[.pointer (some ⟨br,0,none⟩),.pointer (some ⟨w.heap.size+1+1,0,none⟩)] W (fun e w'=>(s=0∨s=4)∧e=.returned (.agg #[.int .i64 2,.int .i64 s,.slice none 0 0])∧Only (fun k=>k=br∨k=w.heap.size+1+1) W w') from (CR.out W h).mono fun e w' hr=>by
    obtain ⟨ho,⟨o3,k1,_⟩ | ⟨s2,k1,k2,k3⟩⟩:=hr
    ·rw [hp] at k1
     cases k1
    ·rw [hp] at k1
     injection k1 with k1
     subst k1
     exact ⟨k2,k3,ho⟩)
   clear hp CR
  rotate_left
  focus
   rename_i o2
   have HD:=hid (show decO b=.inr o2 from HDC.out.trans hp)
   have CRx:=hid (fun W (h:DeSt w z0.heap.size br x5 ⟨na,(nh:Nat),nr,false⟩ W)=>show Calls Tryz.prog 88 #[.pointer (some ⟨br,0,none⟩),.pointer (some ⟨w.heap.size+1+1,0,none⟩)] W (fun e w'=>e=.returned (.agg #[.int .i64 0,.int .i64 0,.slice none 0 0])∧Only (fun k=>k=br∨k=w.heap.size+1+1) W w'∧Box4 w' (w.heap.size+1+1) 24 (.int .u32 o2.an) (.int .i64 o2.hold) (.int .u32 o2.ri) (.bool o2.four)) from (CR.out W h).mono fun e w' hr=>by
    obtain ⟨ho,⟨o3,k1,k2,k3⟩ | ⟨s,k1,_⟩⟩:=hr
    ·rw [hp] at k1
     injection k1 with k1
     subst k1
     exact ⟨k2,ho,k3⟩
    ·rw [hp] at k1
     cases k1)
   clear hp CR
  all_goals
   go_wp2_with (first
    | (have h:=T5.out;go_at_call 85;refine (CBx.out _ h.rd).mono ?_;rintro e zb ⟨rfl,hb⟩;have T6:=hid (h.below hb);clear hb h T5;(try clear c0 c1 c2 c3 fo);obtain ⟨c0,c1,c2,c3⟩:=T6.out.bo.cells;have fo:=T6.out.bo.free)
    | (have h:=T6.out;go_at_call 64;refine (CHo.out _).mono ?_;rintro e zh ⟨rfl,hb⟩;replace T6:=hid (h.below hb);clear hb h;(try clear c0 c1 c2 c3 fo);obtain ⟨c0,c1,c2,c3⟩:=T6.out.bo.cells;have fo:=T6.out.bo.free)
    | (have h:=T6.out;go_at_call 87;refine (CLx.out _ h.rd).mono ?_;rintro e zl ⟨rfl,hb⟩;replace T6:=hid (h.below hb);clear hb h;(try clear c0 c1 c2 c3 fo);obtain ⟨c0,c1,c2,c3⟩:=T6.out.bo.cells;have fo:=T6.out.bo.free)
    | (have h:=T6.out;go_at_call 88;refine (CRx.out _ h).mono ?_;(first | (rintro e zr ⟨rfl,ho,hB⟩;have V7:=hid hB;clear hB) | (rintro e zr ⟨hs4,rfl,ho⟩;have S4:=hid hs4;clear hs4));have T7:=hid (h.only ho);clear ho h T6 c0 c1 c2 c3 fo;obtain ⟨m0,m1,m2⟩:=T7.out.2.cells;have fr:=T7.out.2.free)
    | (have h:=T6.out;go_at_call 86;refine (CF.out _ _ _ _ _).mono ?_;rintro e zf ⟨rfl,hb⟩;(first | (have tok:=KU.out;have hb2:Below zb.heap.size zb (zb.alloc (.cells #[.int .u8 0,.int .u8 4] 5)):=(Below.refl _ _).alloc (Nat.le_refl _) _;have T7:=hid ((h.below hb2).below hb);have U7:=hid ((lit8 zb [0,4] #[.int .u8 0,.int .u8 4] 2 (by unfold Small;decide) rfl rfl (by decide)).keep hb);clear hb2) | (have T7:=hid (h.below hb)));clear hb h T6;obtain ⟨m0,m1,m2⟩:=T7.out.bn.cells;have fr:=T7.out.bn.free))
   go_meet
   first
   | (have tok:=KU.out;exact hid (end_one T7.out.r0 T7.out.bn HD.out U7.out))
   | (have tok:=V7.out;exact hid (end_ok T7.out.1 T7.out.2 HD.out tok))
   | (have tok:=S4.out;exact hid (end_bad T7.out.1 T7.out.2 HD.out (by omega) rfl (by omega)))
   | exact hid (end_bad T7.out.r0 T7.out.bn HD.out (by decide) rfl (by decide))
 case rest =>
 have SZ:=hcut
 obtain ⟨h0,⟨s,A,m,c,-,hd,hb,hn⟩ | ⟨o,hd,hb,hB⟩⟩:=hcut.out
 focus
  have HE:=hid (end_fin h0 hd hn)
  have M0:=hid (fun W (h:Rd0 w W)=>And.intro (h.mid (.int .u32 0) (.int .i64 0) (.int .u32 0) (.bool false)) (h.fin (.int .u32 0) (.int .i64 0) (.int .u32 0) (.bool false) (.int .i64 2) (.int .i64 s) (.slice A m c)))
  clear hn
 rotate_left
 focus
  have HE:=hid (end_good h0 hd)
  have M0:=hid (fun W (h:Rd0 w W)=>And.intro (h.mid (.int .u32 o.an) (.int .i64 o.hold) (.int .u32 o.ri) (.bool o.four)) (h.fin (.int .u32 o.an) (.int .i64 o.hold) (.int .u32 o.ri) (.bool o.four) (.int .i64 0) (.int .i64 0) (.slice none 0 0)))
  obtain ⟨o0,o1,o2,o3⟩:=hB.cells
  obtain ⟨o0',o1',o2',o3'⟩:=(hB.keep (Below.refl wc.heap.size wc).drew).cells
  clear hB
 all_goals
  have S0:=hid h0
  have LD:=hid (h0.below (Below.refl wc.heap.size wc).drew)
  obtain ⟨b0,b1,b2⟩:=hb.cells
  obtain ⟨b0',b1',b2'⟩:=(hb.keep (Below.refl wc.heap.size wc).drew).cells
  clear h0 hd hb SZ hcut
  obtain ⟨f0,f1,f2,f3⟩:=S0.out.r4.cells
  have fr4:=S0.out.r4.free
  obtain ⟨f0',f1',f2',f3'⟩:=LD.out.r4.cells
  have fr4':=LD.out.r4.free
  obtain ⟨m0,m1,m2⟩:=(M0.out _ S0.out).1.cells
  have fr3:=(M0.out _ S0.out).1.free
  unfold four at m0 m1 m2 fr3
  obtain ⟨m0',m1',m2'⟩:=(M0.out _ LD.out).1.cells
  have fr3':=(M0.out _ LD.out).1.free
  unfold four at m0' m1' m2' fr3'
  go_wp2
  go_region
  clear f0 f1 f2 f3 fr4 m0 m1 m2 fr3 f0' f1' f2' f3' fr4' m0' m1' m2' fr3' b0 b1 b2 b0' b1' b2'
  (try clear o0 o1 o2 o3 o0' o1' o2' o3')
  go_wp2
  (try simp only [Exit.inBlock,Exit.then])
  obtain ⟨k1,k2,-⟩:=(M0.out _ S0.out).2
  obtain ⟨r0,r1,r2,r3⟩:=k1.cells
  obtain ⟨t0,t1,t2⟩:=k2.cells
  clear k1 k2
  unfold ends three four at r0 r1 r2 r3 t0 t1 t2
  exact bodyPost_ret (by simp [results,Tryz.results46,go_sem,r0,r1,r2,r3,t0,t1,t2]) rfl HE.out
end Opn
end Go.Proofs.YtjfmompgkkdliaaGreatDoor
