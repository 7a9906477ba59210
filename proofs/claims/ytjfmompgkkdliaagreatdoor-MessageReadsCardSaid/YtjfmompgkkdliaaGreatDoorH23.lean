/- Part of the proof. -/
import Derived.Test.YtjfmompgkkdliaaGreatDoorH17
import Derived.Test.YtjfmompgkkdliaaGreatDoorH08
import Derived.Test.YtjfmompgkkdliaaGreatDoorH20
import Derived.Test.YtjfmompgkkdliaaGreatDoorH03
import Derived.Test.YtjfmompgkkdliaaGreatDoorH22
import Derived.Test.YtjfmompgkkdliaaGreatDoorH04
import Derived.Test.YtjfmompgkkdliaaGreatDoorH02
import Derived.BigQuiet
import Derived.BigRegion
import Derived.RegionTactic
import Derived.Deep.CutBlock
import Derived.Deep.DeepCutAuto
import Derived.Test.YtjfmompgkkdliaaGreatDoorH01
import Derived.Test.YtjfmompgkkdliaaGreatDoorH10
import Derived.Deep.RegionHeld3
import Derived.Test.YtjfmompgkkdliaaGreatDoorH16
open Go.Lib (hid)
set_option maxRecDepth 100000
set_option maxHeartbeats 40000000
namespace Go.Proofs.YtjfmompgkkdliaaGreatDoor
namespace Att
open Segm Rise Oct
def fours (l:List Nat):List Nat:=l.flatMap fun n=>big n 4
theorem fours_cons (n:Nat) (l:List Nat):fours (n :: l)=big n 4 ++ fours l:=rfl
def segB (s:Piece):List Nat:=lo8 s.1 :: lo8 (s.2.length:Int) :: fours s.2
def pathB (p:List Piece):List Nat:=p.flatMap segB
theorem pathB_cons (s:Piece) (q:List Piece):pathB (s :: q)=segB s ++ pathB q:=rfl
def flagN (k:Nat):Nat:=if k=1∨k=2∨k=3∨k=5∨k=6 then 64 else if k=4 then 128 else if k=7∨k=8 then 192 else 0
theorem flagN_is (k:Nat):flagsN (k:Int)=(flagN k:Int):=by
 unfold flagsN flagN
 by_cases h1:k=1∨k=2∨k=3∨k=5∨k=6
 ·rw [if_pos h1,if_pos (by omega)];rfl
 ·rw [if_neg h1,if_neg (by omega)]
  by_cases h2:k=4
  ·rw [if_pos h2,if_pos (by omega)];rfl
  ·rw [if_neg h2,if_neg (by omega)]
   by_cases h3:k=7∨k=8
   ·rw [if_pos h3,if_pos (by omega)];rfl
   ·rw [if_neg h3,if_neg (by omega)];rfl
def itemB (f k:Nat) (v:List Nat):List Nat:=if f / 16 % 2=1 then f :: k :: (big v.length 2 ++ v) else f :: k :: v.length :: v
structure Item where
 f:Nat
 k:Nat
 v:List Nat
 r:List Nat
def itemOf (b:List Nat):Option Item:=match b with
 | f :: k :: r =>
  if f / 16 % 2=1 then (match r with
   | n1 :: n0 :: r2=>if n1*256+n0≤r2.length then some ⟨f,k,r2.take (n1*256+n0),r2.drop (n1*256+n0)⟩ else none
   | _=>none)
  else (match r with
   | n0 :: r2=>if n0≤r2.length then some ⟨f,k,r2.take n0,r2.drop n0⟩ else none
   | _=>none)
 | _=>none
def pathOf:Nat→List Nat→Option (List Piece)
 | 0,b=>if b=[] then some [] else none
 | n+1,b=>match b with
  | []=>some []
  | k :: c :: r=>if (k=1∨k=2)∧c≠0∧4*c≤r.length then (pathOf n (r.drop (4*c))).map fun l=>((k:Int),quadsN r c) :: l else none
  | _=>none
def pathIs (b:List Nat):Option (List Piece):=pathOf b.length b
def ownF (f k:Nat):Nat:=(if f / 16 % 2=1 then f - 16 else f) - (if 7≤k∧f / 32 % 2=1 then 32 else 0)
def subOf (f k:Nat) (v:List Nat):Nat :=
 if k<1∨8<k then (if f<128 then 2 else 0)
 else if ownF f k≠flagN k then 4
 else if longB k v.length=false then 5
 else if k=1 then (if 2<val v then 6 else 0)
 else if k=2 then (match pathIs v with | some p=>if goodP (normS p) && decide (lens p≤2000) then 0 else 11 | none=>11)
 else if k=3 then (if hopB (val v) then 0 else 8)
 else 0
def layA (a:At) (k:Nat) (v:List Nat):At :=
 if k<1∨8<k then a else
 ⟨a.has+2 ^ k,if k=1 then (val v:Nat) else a.origin,if k=2 then (pathIs v).getD [] else a.path,if k=3 then val v else a.hop,if k=4 then val v else a.med,if k=5 then val v else a.pref,
  if k=7 then val (v.take 4) else a.aas,if k=7 then val (v.drop 4) else a.aid,if k=8 then quads v else a.comms⟩
def badN (s:Nat) (x:Item):No:=⟨3,s,if s=11 then [] else itemB x.f x.k x.v⟩
def decA:Nat→List Nat→At→List Nat→No ⊕ At
 | 0,_,a,_=>.inr (normA a)
 | n+1,seen,a,b=>if b=[] then .inr (normA a) else match itemOf b with
  | none=>.inl ⟨3,1,[]⟩
  | some x=>if x.k∈seen then .inl ⟨3,1,[]⟩ else if subOf x.f x.k x.v=0 then decA n (x.k :: seen) (layA a x.k x.v) x.r else .inl (badN (subOf x.f x.k x.v) x)
def decodeA (b:List Nat):No ⊕ At:=decA b.length [] zeroA b
def noneN:No:=⟨0,0,[]⟩
def outA:No ⊕ At→At × No
 | .inl n=>(zeroA,n)
 | .inr a=>(a,noneN)
end Att
namespace Att
open Go.RowKit Mem Segm Oct
def wideN (k:Nat):Nat:=if k=1 then 1 else if k=3∨k=4∨k=5 then 4 else if k=7 then 8 else 0
def Shp (W:World):Prop:=∀ k:Nat,k≤8→W.cell? ⟨0,2*k,none⟩=some (.int .i64 (flagN k:Nat))∧W.cell? ⟨0,2*k+1,none⟩=some (.int .i64 (wideN k:Nat))
theorem Shp.keep {W W':World} (h:Shp W) (hb:Below W.heap.size W W'):Shp W':=fun k hk =>
 ⟨keeps hb (h k hk).1,keeps hb (h k hk).2⟩
theorem has_any (h:Int) (k:Nat) (x1 x2 x3 x4 x5 x6 x7 x8:Value) (w:World) (hk:k≤8) :
  Calls Tryz.prog 116 #[.agg #[.int .i64 h,x1,x2,x3,x4,x5,x6,x7,x8],.int .i64 k] w (Tells (.bool (hasB h k)) w):=by
 have HB:=hid (show Below w.heap.size w (w.alloc (.cells #[.int .i64 h,x1,x2,x3,x4,x5,x6,x7,x8] 29)) from (Below.refl _ w).alloc (Nat.le_refl _) _)
 obtain ⟨c0,-⟩:=(Box9.new w 29 (.int .i64 h) x1 x2 x3 x4 x5 x6 x7 x8).cells
 have e:wrap64 ((2:Int) ^ k)=2 ^ k:=by
  have h1:(2:Int) ^ k=((2 ^ k:Nat):Int):=by simp
  have h2:2 ^ k≤256:=Nat.le_trans (Nat.pow_le_pow_right (by omega) hk) (by decide)
  rw [h1]
  generalize 2 ^ k=y at h2
  unfold wrap64;omega
 have HP:=hid (show (bits .and .i64 h (wrap64 (2 ^ k)) != 0)=hasB h k by rw [e];exact and_pow_has h k hk)
 clear e
 have z0:(0:Int)≤(k:Int):=by omega
 go_enter Tryz.func116,Tryz.ntmps116
 go_wp2
 go_quiet (fail)
 go_wp2
 go_ret
 exact ⟨by rw [← HP.out];rfl,HB.out.trans ((Mem.below_drewN _ _).mono HB.out.size)⟩
theorem hop_any (a:Nat) (w:World) (ha:a<4294967296):Calls Tryz.prog 117 #[.int .u32 a] w (Tells (.bool (hopB a)) w):=by
 have HB:=hid (Below.refl w.heap.size w)
 by_cases h0:a=0
 ·subst h0
  go_enter Tryz.func117,Tryz.ntmps117
  go_wp2
  go_ret
  exact ⟨rfl,HB.out⟩
 ·by_cases h1:a=4294967295
  ·subst h1
   go_enter Tryz.func117,Tryz.ntmps117
   go_wp2
   go_ret
   exact ⟨rfl,HB.out⟩
  ·have y0:((a:Int) != 0)=true:=by simp;omega
   have y1:((a:Int) != 4294967295)=true:=by simp;omega
   by_cases h2:(a:Int)<3758096384
   ·by_cases h3:True
    ·have e:hopB a=true:=by unfold hopB;rw [decide_eq_true h0,decide_eq_true h1,decide_eq_true (show a / 268435456≠14 by omega)];rfl
     rw [e]
     clear e ha
     go_enter Tryz.func117,Tryz.ntmps117
     go_wp2
     go_ret
     exact ⟨rfl,HB.out⟩
    ·exact absurd trivial h3
   ·have d2:decide ((a:Int)<3758096384)=false:=decide_eq_false h2
    by_cases h3:(4026531839:Int)<(a:Int)
    ·have e:hopB a=true:=by unfold hopB;rw [decide_eq_true h0,decide_eq_true h1,decide_eq_true (show a / 268435456≠14 by omega)];rfl
     rw [e]
     clear e ha
     go_enter Tryz.func117,Tryz.ntmps117
     go_wp2
     go_ret
     exact ⟨rfl,HB.out⟩
    ·have d3:decide ((4026531839:Int)<(a:Int))=false:=decide_eq_false h3
     have e:hopB a=false:=by unfold hopB;rw [decide_eq_true h0,decide_eq_true h1,decide_eq_false (show ¬ a / 268435456≠14 by omega)];rfl
     rw [e]
     clear e ha
     go_enter Tryz.func117,Tryz.ntmps117
     go_wp2
     go_ret
     exact ⟨rfl,HB.out⟩
theorem known_any (k:Int) (w:World):Calls Tryz.prog 158 #[.int .i64 k] w (Tells (.bool (decide (1≤k) && decide (k≤8))) w):=by
 have HB:=hid (Below.refl w.heap.size w)
 by_cases h0:1≤k
 ·have HE:=hid (show (decide (1≤k) && decide (k≤8))=decide (k≤8) by rw [decide_eq_true h0];rfl)
  rw [HE.out]
  go_enter Tryz.func158,Tryz.ntmps158
  go_wp2
  go_ret
  exact ⟨rfl,HB.out⟩
 ·have d0:decide (1≤k)=false:=decide_eq_false h0
  rw [d0]
  go_enter Tryz.func158,Tryz.ntmps158
  go_wp2
  go_ret
  exact ⟨rfl,HB.out⟩
theorem flags_any (k:Int) (w:World) (hS:Shp w):Calls Tryz.prog 143 #[.int .i64 k] w (Tells (.int .i64 (flagsN k)) w):=by
 by_cases hk:1≤k∧k≤8
 ·obtain ⟨m,rfl⟩:=Int.eq_ofNat_of_zero_le (show 0≤k by omega)
  have CK:=hid (fun W=>show Calls Tryz.prog 158 #[.int .i64 m] W (Tells (.bool true) W) from by
   have h:=known_any (m:Int) W
   rw [decide_eq_true hk.1,decide_eq_true hk.2] at h
   exact h)
  have HS:=hid hS
  rw [flagN_is]
  have z0:(0:Int)≤(m:Int):=by omega
  have z9:(m:Int)<9:=by omega
  have hm:m≤8:=by omega
  have e2:m*2=2*m:=by omega
  clear hS hk
  go_enter Tryz.func143,Tryz.ntmps143
  go_wp2_with (go_at_call 158;refine (CK.out _).mono ?_;rintro e w1 ⟨rfl,hb⟩;have HB:=hid hb;have c0:=(HS.out.keep hb m hm).1;clear hb)
  go_ret
  exact ⟨rfl,HB.out⟩
 ·have CK:=hid (fun W=>show Calls Tryz.prog 158 #[.int .i64 k] W (Tells (.bool false) W) from by
   have h:=known_any k W
   rw [show (decide (1≤k) && decide (k≤8))=false by
    by_cases h1:1≤k
    ·rw [decide_eq_false (show ¬ k≤8 from fun h2=>hk ⟨h1,h2⟩)];simp
    ·rw [decide_eq_false h1];rfl] at h
   exact h)
  have e:flagsN k=0:=by unfold flagsN;rw [if_neg (by omega),if_neg (by omega),if_neg (by omega)]
  rw [e]
  clear hS hk
  go_enter Tryz.func143,Tryz.ntmps143
  go_wp2_with (go_at_call 158;refine (CK.out _).mono ?_;rintro e w1 ⟨rfl,hb⟩;have HB:=hid hb;clear hb)
  go_ret
  exact ⟨rfl,HB.out⟩
end Att
namespace Att
open Go.RowKit Mem Segm Oct
def wellN (h:Int):No:=if hasB h 1=false then ⟨3,3,[1]⟩ else if hasB h 2=false then ⟨3,3,[2]⟩ else if hasB h 3=false then ⟨3,3,[3]⟩ else ⟨0,0,[]⟩
theorem well_step {h:Int} {j:Nat} (hj:j<3) (ha:∀ k:Nat,1≤k→k≤j→hasB h (k:Int)=true) (hb:hasB h ((j+1:Nat):Int)=false):wellN h=⟨3,3,[j+1]⟩:=by
 unfold wellN
 match j,hj with
 | 0,_=>rw [if_pos (show hasB h 1=false from hb)]
 | 1,_=>rw [if_neg (by rw [show hasB h 1=true from ha 1 (by omega) (by omega)];decide),if_pos (show hasB h 2=false from hb)]
 | 2,_=>rw [if_neg (by rw [show hasB h 1=true from ha 1 (by omega) (by omega)];decide),if_neg (by rw [show hasB h 2=true from ha 2 (by omega) (by omega)];decide),if_pos (show hasB h 3=false from hb)]
theorem well_all {h:Int} (ha:∀ k:Nat,1≤k→k≤3→hasB h (k:Int)=true):wellN h=⟨0,0,[]⟩:=by
 unfold wellN
 rw [if_neg (by rw [show hasB h 1=true from ha 1 (by omega) (by omega)];decide),if_neg (by rw [show hasB h 2=true from ha 2 (by omega) (by omega)];decide),if_neg (by rw [show hasB h 3=true from ha 3 (by omega) (by omega)];decide)]
theorem well_any (v:Value) (a:At) (w:World) (hv:Attrs w v a):Calls Tryz.prog 68 #[v] w (fun e w'=>∃ v',e=.returned v'∧Note w' v' (wellN a.has)∧Below w.heap.size w w'):=by
 obtain ⟨_,vp,vc,rfl,-,-⟩:=hv
 obtain ⟨h,o,p,hp,md,pr,ag,ai,cm⟩:=a
 dsimp only
 unfold acells
 dsimp only
 have H1:=Box9.new w 29 (.int .i64 h) (.int .i64 o) vp (.int .u32 hp) (.int .u32 md) (.int .u32 pr) (.int .u32 ag) (.int .u32 ai) vc
 have B1:Below w.heap.size w (w.alloc (.cells #[.int .i64 h,.int .i64 o,vp,.int .u32 hp,.int .u32 md,.int .u32 pr,.int .u32 ag,.int .u32 ai,vc] 29)):=(Below.refl _ w).alloc (Nat.le_refl _) _
 have e1:(w.alloc (.cells #[.int .i64 h,.int .i64 o,vp,.int .u32 hp,.int .u32 md,.int .u32 pr,.int .u32 ag,.int .u32 ai,vc] 29)).heap.size=w.heap.size+1:=by simp
 have H2:=Box3.new (w.alloc (.cells #[.int .i64 h,.int .i64 o,vp,.int .u32 hp,.int .u32 md,.int .u32 pr,.int .u32 ag,.int .u32 ai,vc] 29)) 34 (.int .i64 0) (.int .i64 0) (.slice none 0 0)
 rw [e1] at H2
 have HX:=hid (And.intro (H1.keep ((Below.refl _ _).alloc (Nat.le_refl _) (.cells #[.int .i64 0,.int .i64 0,.slice none 0 0] 34))) (And.intro H2 (B1.alloc B1.size (.cells #[.int .i64 0,.int .i64 0,.slice none 0 0] 34))))
 have CH:=hid (fun (k:Nat) (hk:k≤8) (W:World)=>has_any h k (.int .i64 o) vp (.int .u32 hp) (.int .u32 md) (.int .u32 pr) (.int .u32 ag) (.int .u32 ai) vc W hk)
 clear H1 B1 e1 H2
 go_enter Tryz.func68,Tryz.ntmps68
 go_wp2
 go_loopw [3] (fun v3 wx=>∃ j:Nat,j≤3∧v3=.int .i64 ((j+1:Nat):Int)∧Hid (∀ k:Nat,1≤k→k≤j→hasB h (k:Int)=true)∧Hid (Box9 wx w.heap.size 29 (.int .i64 h) (.int .i64 o) vp (.int .u32 hp) (.int .u32 md) (.int .u32 pr) (.int .u32 ag) (.int .u32 ai) vc∧Box3 wx (w.heap.size+1) 34 (.int .i64 0) (.int .i64 0) (.slice none 0 0)∧Below w.heap.size w wx)) (fun v3 _=>5 - (intOf v3).toNat)
 case atStart=>exact ⟨0,by omega,rfl,hid (fun k h1 h2=>by omega),HX⟩
 case round =>
  obtain ⟨j,hj,rfl,hall,ST⟩:=hrel
  obtain ⟨c0,c1,c2,c3,c4,c5,c6,c7,c8⟩:=ST.out.1.cells
  by_cases hlt:j<3
  ·have z1:((j+1:Nat):Int)≤3:=by omega
   cases hb:hasB h ((j+1:Nat):Int) with
   | true =>
    have CHJ:=hid (fun W=>CH.out (j+1) (by omega) W)
    rw [hb] at CHJ
    have HA:=hid (show ∀ k:Nat,1≤k→k≤j+1→hasB h (k:Int)=true from fun k h1 h2=>by
     by_cases e:k=j+1
     ·subst e;exact hb
     ·exact hall.out k h1 (by omega))
    clear hb
    go_wp2_with (go_at_call 116;refine (CHJ.out _).mono ?_;rintro e x ⟨rfl,hx⟩;have S2:=hid (And.intro (ST.out.1.keep hx) (And.intro (ST.out.2.1.keep hx) (ST.out.2.2.trans (hx.mono ST.out.2.2.size))));clear hx c0 c1 c2 c3 c4 c5 c6 c7 c8)
    go_roundw
    case rel=>exact ⟨j+1,by omega,by go_num,HA,S2⟩
    case measure=>simp [intOf];omega
   | false =>
    have CHJ:=hid (fun W=>CH.out (j+1) (by omega) W)
    rw [hb] at CHJ
    have HN:=hid (well_step hlt hall.out hb)
    have w8:IntKind.u8.wrap ((j+1:Nat):Int)=((j+1:Nat):Int):=by rw [IntKind.wrap_u8];omega
    clear hb
    obtain ⟨jj,hjj⟩:∃ jj,jj=j+1:=⟨_,rfl⟩
    rw [← hjj] at CHJ HN w8 z1
    rw [← hjj]
    have hj4:jj<4:=by omega
    clear hlt hj hall hjj
    go_wp2_with (go_at_call 116;refine (CHJ.out _).mono ?_;rintro e x ⟨rfl,hx⟩;have S2:=hid (And.intro (ST.out.1.keep hx) (And.intro (ST.out.2.1.keep hx) (ST.out.2.2.trans (hx.mono ST.out.2.2.size))));have S3:=hid (S2.out.2.1.keep ((Below.refl _ x).alloc (Nat.le_refl _) (.cells #[.int .u8 jj] 5)));clear hx c0 c1 c2 c3 c4 c5 c6 c7 c8;obtain ⟨d0,d1,d2⟩:=S3.out.cells;have ff:=S3.out.free)
    (try simp only [Exit.inBlock,Exit.then])
    obtain ⟨r0,r1,r2⟩:=(S3.out.laid (.int .i64 3) (.int .i64 3) (.slice (some ⟨x.heap.size,0,none⟩) 1 1)).cells
    unfold three at r0 r1 r2
    refine bodyPost_ret (v:=.agg #[.int .i64 3,.int .i64 3,.slice (some ⟨x.heap.size,0,none⟩) 1 1]) (by simp [results,Tryz.results68,go_sem,r0,r1,r2]) rfl ?_
    have hlt:=S2.out.2.1.lt
    have hU:U8s (x.alloc (.cells #[.int .u8 jj] 5)) (.slice (some ⟨x.heap.size,0,none⟩) 1 1) [jj]:=lit8 _ _ _ _ (fun n hn=>by rw [List.mem_singleton.1 hn];omega) rfl rfl (by decide)
    have ho:=three_off (x.alloc (.cells #[.int .u8 jj] 5)) (w.heap.size+1) (.int .i64 3) (.int .i64 3) (.slice (some ⟨x.heap.size,0,none⟩) 1 1)
    refine ⟨_,rfl,?_,three_low (S2.out.2.2.alloc S2.out.2.2.size _) _ (by omega) _ _ _⟩
    rw [HN.out]
    exact ⟨show (Lit.int .i64 3).wf=true by decide,show (Lit.int .i64 3).wf=true by decide,_,rfl,hU.part (fun g hg=>ho.1 g (by have hq:x.heap.size=g:=Option.some.inj hg;omega)) ho.2⟩
  ·obtain rfl:j=3:=by omega
   have HN:=hid (well_all hall.out)
   obtain ⟨d0,d1,d2⟩:=ST.out.2.1.cells
   have ff:=ST.out.2.1.free
   go_wp2
   (try simp only [Exit.inBlock,Exit.then])
   obtain ⟨r0,r1,r2⟩:=(ST.out.2.1.laid (.int .i64 0) (.int .i64 0) (.slice none 0 0)).cells
   unfold three at r0 r1 r2
   refine bodyPost_ret (v:=.agg #[.int .i64 0,.int .i64 0,.slice none 0 0]) (by simp [results,Tryz.results68,go_sem,r0,r1,r2]) rfl ?_
   refine ⟨_,rfl,?_,three_low ST.out.2.2 _ (by omega) _ _ _⟩
   rw [HN.out]
   exact ⟨by decide,by decide,_,rfl,U8s.nil _⟩
end Att
namespace Att
open Go.RowKit Mem Segm Oct
theorem upto_form (h:Int):∃ x:Nat,hasUpto h 8=x % 512 - x % 2∧∀ k:Nat,1≤k→k≤8→hasB h (k:Int)=(x / 2 ^ k % 2 == 1):=by
 have H:∀ k:Nat,1≤k→k≤8→hasB h (k:Int)=((h % 18446744073709551616).toNat / 2 ^ k % 2 == 1):=fun k h1 h8=>by
  generalize hx:(h % 18446744073709551616).toNat=x
  rw [hasB_in (by omega)]
  have hx0:(x:Int)=h % 18446744073709551616:=by omega
  have hk2:k=1∨k=2∨k=3∨k=4∨k=5∨k=6∨k=7∨k=8:=by omega
  have e:h / 2 ^ k % 2=((x / 2 ^ k % 2:Nat):Int):=by
   rcases hk2 with rfl | rfl | rfl | rfl | rfl | rfl | rfl | rfl <;> simp only [Nat.reducePow,Int.reducePow] <;> omega
  rw [e]
  by_cases hd:x / 2 ^ k % 2=1
  ·rw [hd];rfl
  ·rw [show x / 2 ^ k % 2=0 by omega];rfl
 exact ⟨_,hasUpto_nat H 8 (by omega),H⟩
theorem hasB_upto (h:Int) (k:Nat) (h1:1≤k) (h8:k≤8):hasB (hasUpto h 8:Nat) (k:Int)=hasB h (k:Int):=by
 obtain ⟨x,e,H⟩:=upto_form h
 rw [H k h1 h8,e,hasB_in (by omega)]
 have hk2:k=1∨k=2∨k=3∨k=4∨k=5∨k=6∨k=7∨k=8:=by omega
 have e2:(((x % 512 - x % 2:Nat):Int)) / 2 ^ k % 2=((x / 2 ^ k % 2:Nat):Int):=by
  rcases hk2 with rfl | rfl | rfl | rfl | rfl | rfl | rfl | rfl <;> simp only [Nat.reducePow,Int.reducePow] <;> omega
 rw [e2]
 by_cases hd:x / 2 ^ k % 2=1
 ·rw [hd];rfl
 ·rw [show x / 2 ^ k % 2=0 by omega];rfl
structure PresSt (w:World) (y0 y1 y2 y3 y4 y5 y6 y7 y8:Value) (W:World):Prop where
 b1:Box9 W w.heap.size 29 y0 y1 y2 y3 y4 y5 y6 y7 y8
 b2:Box9 W (w.heap.size+1) 29 (.int .i64 0) (.int .i64 0) (.slice none 0 0) (.int .u32 0) (.int .u32 0) (.int .u32 0) (.int .u32 0) (.int .u32 0) (.slice none 0 0)
 low:Below w.heap.size w W
section
variable {w W W':World} {y0 y1 y2 y3 y4 y5 y6 y7 y8:Value}
theorem PresSt.below (h:PresSt w y0 y1 y2 y3 y4 y5 y6 y7 y8 W) (hb:Below W.heap.size W W'):PresSt w y0 y1 y2 y3 y4 y5 y6 y7 y8 W' :=
 ⟨h.b1.keep hb,h.b2.keep hb,h.low.trans (hb.mono h.low.size)⟩
theorem PresSt.set0 (h:PresSt w y0 y1 y2 y3 y4 y5 y6 y7 y8 W) (v:Value):PresSt w v y1 y2 y3 y4 y5 y6 y7 y8 (W.setCell ⟨w.heap.size,0,none⟩ v) :=
 ⟨h.b1.set0 v,box_far h.b2 (by omega),h.low.setCell (p:=⟨w.heap.size,0,none⟩) (Nat.le_refl _) _⟩
theorem PresSt.set1 (h:PresSt w y0 y1 y2 y3 y4 y5 y6 y7 y8 W) (v:Value):PresSt w y0 v y2 y3 y4 y5 y6 y7 y8 (W.setCell ⟨w.heap.size,1,none⟩ v) :=
 ⟨h.b1.set1 v,box_far h.b2 (by omega),h.low.setCell (p:=⟨w.heap.size,1,none⟩) (Nat.le_refl _) _⟩
theorem PresSt.set2 (h:PresSt w y0 y1 y2 y3 y4 y5 y6 y7 y8 W) (v:Value):PresSt w y0 y1 v y3 y4 y5 y6 y7 y8 (W.setCell ⟨w.heap.size,2,none⟩ v) :=
 ⟨h.b1.set2 v,box_far h.b2 (by omega),h.low.setCell (p:=⟨w.heap.size,2,none⟩) (Nat.le_refl _) _⟩
theorem PresSt.set3 (h:PresSt w y0 y1 y2 y3 y4 y5 y6 y7 y8 W) (v:Value):PresSt w y0 y1 y2 v y4 y5 y6 y7 y8 (W.setCell ⟨w.heap.size,3,none⟩ v) :=
 ⟨h.b1.set3 v,box_far h.b2 (by omega),h.low.setCell (p:=⟨w.heap.size,3,none⟩) (Nat.le_refl _) _⟩
theorem PresSt.set4 (h:PresSt w y0 y1 y2 y3 y4 y5 y6 y7 y8 W) (v:Value):PresSt w y0 y1 y2 y3 v y5 y6 y7 y8 (W.setCell ⟨w.heap.size,4,none⟩ v) :=
 ⟨h.b1.set4 v,box_far h.b2 (by omega),h.low.setCell (p:=⟨w.heap.size,4,none⟩) (Nat.le_refl _) _⟩
theorem PresSt.set5 (h:PresSt w y0 y1 y2 y3 y4 y5 y6 y7 y8 W) (v:Value):PresSt w y0 y1 y2 y3 y4 v y6 y7 y8 (W.setCell ⟨w.heap.size,5,none⟩ v) :=
 ⟨h.b1.set5 v,box_far h.b2 (by omega),h.low.setCell (p:=⟨w.heap.size,5,none⟩) (Nat.le_refl _) _⟩
theorem PresSt.set6 (h:PresSt w y0 y1 y2 y3 y4 y5 y6 y7 y8 W) (v:Value):PresSt w y0 y1 y2 y3 y4 y5 v y7 y8 (W.setCell ⟨w.heap.size,6,none⟩ v) :=
 ⟨h.b1.set6 v,box_far h.b2 (by omega),h.low.setCell (p:=⟨w.heap.size,6,none⟩) (Nat.le_refl _) _⟩
theorem PresSt.set7 (h:PresSt w y0 y1 y2 y3 y4 y5 y6 y7 y8 W) (v:Value):PresSt w y0 y1 y2 y3 y4 y5 y6 v y8 (W.setCell ⟨w.heap.size,7,none⟩ v) :=
 ⟨h.b1.set7 v,box_far h.b2 (by omega),h.low.setCell (p:=⟨w.heap.size,7,none⟩) (Nat.le_refl _) _⟩
theorem PresSt.set8 (h:PresSt w y0 y1 y2 y3 y4 y5 y6 y7 y8 W) (v:Value):PresSt w y0 y1 y2 y3 y4 y5 y6 y7 v (W.setCell ⟨w.heap.size,8,none⟩ v) :=
 ⟨h.b1.set8 v,box_far h.b2 (by omega),h.low.setCell (p:=⟨w.heap.size,8,none⟩) (Nat.le_refl _) _⟩
end
theorem pres_new (w:World) (x0 x1 x2 x3 x4 x5 x6 x7 x8:Value):PresSt w x0 x1 x2 x3 x4 x5 x6 x7 x8 ((w.alloc (.cells #[x0,x1,x2,x3,x4,x5,x6,x7,x8] 29)).alloc (.cells #[.int .i64 0,.int .i64 0,.slice none 0 0,.int .u32 0,.int .u32 0,.int .u32 0,.int .u32 0,.int .u32 0,.slice none 0 0] 29)):=by
 obtain ⟨h1,h2,h3⟩:=two_boxes w 29 x0 x1 x2 x3 x4 x5 x6 x7 x8 (.int .i64 0) (.int .i64 0) (.slice none 0 0) (.int .u32 0) (.int .u32 0) (.int .u32 0) (.int .u32 0) (.int .u32 0) (.slice none 0 0)
 exact ⟨h1,h2,h3⟩
theorem pres8 (h o:Int) (Ap Ac:Option Addr) (np cp nc cc hp md pr ag ai:Nat) (w:World)
  (o1:Int) (Ap1 Ac1:Option Addr) (np1 cp1 nc1 cc1 hp1 md1 pr1 ag1 ai1:Nat)
  (E1:Hid (o1=if hasB h 1 then o else 0)) (E2:Hid (Value.slice Ap1 np1 cp1=if hasB h 2 then .slice Ap np cp else .slice none 0 0))
  (E3:Hid (hp1=if hasB h 3 then hp else 0)) (E4:Hid (md1=if hasB h 4 then md else 0)) (E5:Hid (pr1=if hasB h 5 then pr else 0)) (E6:Hid (ag1=if hasB h 7 then ag else 0)) (E7:Hid (ai1=if hasB h 7 then ai else 0))
  (E8:Hid (Value.slice Ac1 nc1 cc1=if hasB h 8 then .slice Ac nc cc else .slice none 0 0)) :
  Calls Tryz.prog 113 #[.agg #[.int .i64 h,.int .i64 o,.slice Ap np cp,.int .u32 hp,.int .u32 md,.int .u32 pr,.int .u32 ag,.int .u32 ai,.slice Ac nc cc]] w (Tells (.agg #[.int .i64 (hasUpto h 8:Nat),.int .i64 o1,.slice Ap1 np1 cp1,.int .u32 hp1,.int .u32 md1,.int .u32 pr1,.int .u32 ag1,.int .u32 ai1,.slice Ac1 nc1 cc1]) w):=by
 have CH:=hid (fun (k:Int) (hk:1≤k) (hk8:k≤8) (x1 x2 x3 x4 x5 x6 x7 x8:Value) (W:World)=>show Calls Tryz.prog 116 #[.agg #[.int .i64 (hasUpto h 8:Nat),x1,x2,x3,x4,x5,x6,x7,x8],.int .i64 k] W (Tells (.bool (hasB h k)) W) from by
  obtain ⟨m,rfl⟩:=Int.eq_ofNat_of_zero_le (show 0≤k by omega)
  have q:=has_any (hasUpto h 8:Nat) m x1 x2 x3 x4 x5 x6 x7 x8 W (by omega)
  rw [hasB_upto h m (by omega) (by omega)] at q
  exact q)
 have S0:=hid (pres_new w (.int .i64 h) (.int .i64 o) (.slice Ap np cp) (.int .u32 hp) (.int .u32 md) (.int .u32 pr) (.int .u32 ag) (.int .u32 ai) (.slice Ac nc cc))
 obtain ⟨c0,c1,c2,c3,c4,c5,c6,c7,c8⟩:=S0.out.b1.cells
 have ff:=S0.out.b1.free
 have HA:=and_510 h
 have ST:=hid (pres_new w (.int .i64 (hasUpto h 8:Nat)) (.int .i64 o) (.slice Ap np cp) (.int .u32 hp) (.int .u32 md) (.int .u32 pr) (.int .u32 ag) (.int .u32 ai) (.slice Ac nc cc))
 clear S0
 go_enter Tryz.func113,Tryz.ntmps113
 go_upto_if 9 with (go_at_call 116;refine (CH.out 1 (by decide) (by decide) _ _ _ _ _ _ _ _ _).mono ?_;rintro e x ⟨rfl,hx⟩;replace ST:=hid (ST.out.below hx);clear c0 c1 c2 c3 c4 c5 c6 c7 c8;obtain ⟨c0,c1,c2,c3,c4,c5,c6,c7,c8⟩:=ST.out.b1.cells;have ff:=ST.out.b1.free;clear hx)
 go_cut [] from 7 (fun wx=>Hid (PresSt w (.int .i64 (hasUpto h 8:Nat)) (.int .i64 o1) (.slice Ap np cp) (.int .u32 hp) (.int .u32 md) (.int .u32 pr) (.int .u32 ag) (.int .u32 ai) (.slice Ac nc cc) wx))
 case first =>
  cases hb:hasB h 1 with
  | false =>
   go_wp2
   go_meet
   rw [E1.out,if_neg (show ¬ hasB h 1=true by rw [hb];decide)]
   exact hid (ST.out.set1 _)
  | true =>
   go_wp2
   go_meet
   rw [E1.out,if_pos hb]
   exact ST
 case rest =>
 clear c0 c1 c2 c3 c4 c5 c6 c7 c8 ST
 have ST:=hcut
 clear hcut
 obtain ⟨c0,c1,c2,c3,c4,c5,c6,c7,c8⟩:=ST.out.b1.cells
 go_upto_if 13 with (go_at_call 116;refine (CH.out 2 (by decide) (by decide) _ _ _ _ _ _ _ _ _).mono ?_;rintro e x ⟨rfl,hx⟩;replace ST:=hid (ST.out.below hx);clear c0 c1 c2 c3 c4 c5 c6 c7 c8;obtain ⟨c0,c1,c2,c3,c4,c5,c6,c7,c8⟩:=ST.out.b1.cells;have ff:=ST.out.b1.free;clear hx)
 go_cut [] from 11 (fun wx=>Hid (PresSt w (.int .i64 (hasUpto h 8:Nat)) (.int .i64 o1) (.slice Ap1 np1 cp1) (.int .u32 hp) (.int .u32 md) (.int .u32 pr) (.int .u32 ag) (.int .u32 ai) (.slice Ac nc cc) wx))
 case first =>
  cases hb:hasB h 2 with
  | false =>
   go_wp2
   go_meet
   rw [E2.out,if_neg (show ¬ hasB h 2=true by rw [hb];decide)]
   exact hid (ST.out.set2 _)
  | true =>
   go_wp2
   go_meet
   rw [E2.out,if_pos hb]
   exact ST
 case rest =>
 clear c0 c1 c2 c3 c4 c5 c6 c7 c8 ST
 have ST:=hcut
 clear hcut
 obtain ⟨c0,c1,c2,c3,c4,c5,c6,c7,c8⟩:=ST.out.b1.cells
 go_upto_if 17 with (go_at_call 116;refine (CH.out 3 (by decide) (by decide) _ _ _ _ _ _ _ _ _).mono ?_;rintro e x ⟨rfl,hx⟩;replace ST:=hid (ST.out.below hx);clear c0 c1 c2 c3 c4 c5 c6 c7 c8;obtain ⟨c0,c1,c2,c3,c4,c5,c6,c7,c8⟩:=ST.out.b1.cells;have ff:=ST.out.b1.free;clear hx)
 go_cut [] from 15 (fun wx=>Hid (PresSt w (.int .i64 (hasUpto h 8:Nat)) (.int .i64 o1) (.slice Ap1 np1 cp1) (.int .u32 hp1) (.int .u32 md) (.int .u32 pr) (.int .u32 ag) (.int .u32 ai) (.slice Ac nc cc) wx))
 case first =>
  cases hb:hasB h 3 with
  | false =>
   go_wp2
   go_meet
   rw [E3.out,if_neg (show ¬ hasB h 3=true by rw [hb];decide)]
   exact hid (ST.out.set3 _)
  | true =>
   go_wp2
   go_meet
   rw [E3.out,if_pos hb]
   exact ST
 case rest =>
 clear c0 c1 c2 c3 c4 c5 c6 c7 c8 ST
 have ST:=hcut
 clear hcut
 obtain ⟨c0,c1,c2,c3,c4,c5,c6,c7,c8⟩:=ST.out.b1.cells
 go_upto_if 21 with (go_at_call 116;refine (CH.out 4 (by decide) (by decide) _ _ _ _ _ _ _ _ _).mono ?_;rintro e x ⟨rfl,hx⟩;replace ST:=hid (ST.out.below hx);clear c0 c1 c2 c3 c4 c5 c6 c7 c8;obtain ⟨c0,c1,c2,c3,c4,c5,c6,c7,c8⟩:=ST.out.b1.cells;have ff:=ST.out.b1.free;clear hx)
 go_cut [] from 19 (fun wx=>Hid (PresSt w (.int .i64 (hasUpto h 8:Nat)) (.int .i64 o1) (.slice Ap1 np1 cp1) (.int .u32 hp1) (.int .u32 md1) (.int .u32 pr) (.int .u32 ag) (.int .u32 ai) (.slice Ac nc cc) wx))
 case first =>
  cases hb:hasB h 4 with
  | false =>
   go_wp2
   go_meet
   rw [E4.out,if_neg (show ¬ hasB h 4=true by rw [hb];decide)]
   exact hid (ST.out.set4 _)
  | true =>
   go_wp2
   go_meet
   rw [E4.out,if_pos hb]
   exact ST
 case rest =>
 clear c0 c1 c2 c3 c4 c5 c6 c7 c8 ST
 have ST:=hcut
 clear hcut
 obtain ⟨c0,c1,c2,c3,c4,c5,c6,c7,c8⟩:=ST.out.b1.cells
 go_upto_if 25 with (go_at_call 116;refine (CH.out 5 (by decide) (by decide) _ _ _ _ _ _ _ _ _).mono ?_;rintro e x ⟨rfl,hx⟩;replace ST:=hid (ST.out.below hx);clear c0 c1 c2 c3 c4 c5 c6 c7 c8;obtain ⟨c0,c1,c2,c3,c4,c5,c6,c7,c8⟩:=ST.out.b1.cells;have ff:=ST.out.b1.free;clear hx)
 go_cut [] from 23 (fun wx=>Hid (PresSt w (.int .i64 (hasUpto h 8:Nat)) (.int .i64 o1) (.slice Ap1 np1 cp1) (.int .u32 hp1) (.int .u32 md1) (.int .u32 pr1) (.int .u32 ag) (.int .u32 ai) (.slice Ac nc cc) wx))
 case first =>
  cases hb:hasB h 5 with
  | false =>
   go_wp2
   go_meet
   rw [E5.out,if_neg (show ¬ hasB h 5=true by rw [hb];decide)]
   exact hid (ST.out.set5 _)
  | true =>
   go_wp2
   go_meet
   rw [E5.out,if_pos hb]
   exact ST
 case rest =>
 clear c0 c1 c2 c3 c4 c5 c6 c7 c8 ST
 have ST:=hcut
 clear hcut
 obtain ⟨c0,c1,c2,c3,c4,c5,c6,c7,c8⟩:=ST.out.b1.cells
 go_upto_if 29 with (go_at_call 116;refine (CH.out 7 (by decide) (by decide) _ _ _ _ _ _ _ _ _).mono ?_;rintro e x ⟨rfl,hx⟩;replace ST:=hid (ST.out.below hx);clear c0 c1 c2 c3 c4 c5 c6 c7 c8;obtain ⟨c0,c1,c2,c3,c4,c5,c6,c7,c8⟩:=ST.out.b1.cells;have ff:=ST.out.b1.free;clear hx)
 go_cut [] from 27 (fun wx=>Hid (PresSt w (.int .i64 (hasUpto h 8:Nat)) (.int .i64 o1) (.slice Ap1 np1 cp1) (.int .u32 hp1) (.int .u32 md1) (.int .u32 pr1) (.int .u32 ag1) (.int .u32 ai1) (.slice Ac nc cc) wx))
 case first =>
  cases hb:hasB h 7 with
  | false =>
   go_wp2
   go_meet
   rw [E6.out,if_neg (show ¬ hasB h 7=true by rw [hb];decide),E7.out,if_neg (show ¬ hasB h 7=true by rw [hb];decide)]
   exact hid ((ST.out.set6 _).set7 _)
  | true =>
   go_wp2
   go_meet
   rw [E6.out,if_pos hb,E7.out,if_pos hb]
   exact ST
 case rest =>
 clear c0 c1 c2 c3 c4 c5 c6 c7 c8 ST
 have ST:=hcut
 clear hcut
 obtain ⟨c0,c1,c2,c3,c4,c5,c6,c7,c8⟩:=ST.out.b1.cells
 go_upto_if 34 with (go_at_call 116;refine (CH.out 8 (by decide) (by decide) _ _ _ _ _ _ _ _ _).mono ?_;rintro e x ⟨rfl,hx⟩;replace ST:=hid (ST.out.below hx);clear c0 c1 c2 c3 c4 c5 c6 c7 c8;obtain ⟨c0,c1,c2,c3,c4,c5,c6,c7,c8⟩:=ST.out.b1.cells;have ff:=ST.out.b1.free;clear hx)
 go_cut [] from 32 (fun wx=>Hid (PresSt w (.int .i64 (hasUpto h 8:Nat)) (.int .i64 o1) (.slice Ap1 np1 cp1) (.int .u32 hp1) (.int .u32 md1) (.int .u32 pr1) (.int .u32 ag1) (.int .u32 ai1) (.slice Ac1 nc1 cc1) wx))
 case first =>
  cases hb:hasB h 8 with
  | false =>
   go_wp2
   go_meet
   rw [E8.out,if_neg (show ¬ hasB h 8=true by rw [hb];decide)]
   exact hid (ST.out.set8 _)
  | true =>
   go_wp2
   go_meet
   rw [E8.out,if_pos hb]
   exact ST
 case rest =>
 clear c0 c1 c2 c3 c4 c5 c6 c7 c8 ST
 have ST:=hcut
 clear hcut
 obtain ⟨c0,c1,c2,c3,c4,c5,c6,c7,c8⟩:=ST.out.b1.cells
 obtain ⟨g0,g1,g2,g3,g4,g5,g6,g7,g8⟩:=ST.out.b2.cells
 have fg:=ST.out.b2.free
 have B9:=(((((((((ST.out.b2.set0 (.int .i64 (hasUpto h 8:Nat))).set1 (.int .i64 o1)).set2 (.slice Ap1 np1 cp1)).set3 (.int .u32 hp1)).set4 (.int .u32 md1)).set5 (.int .u32 pr1)).set6 (.int .u32 ag1)).set7 (.int .u32 ai1)).set8 (.slice Ac1 nc1 cc1))
 obtain ⟨r0,r1,r2,r3,r4,r5,r6,r7,r8⟩:=B9.cells
 go_wp2
 (try simp only [Exit.inBlock,Exit.then])
 refine bodyPost_ret (v:=.agg #[.int .i64 (hasUpto h 8:Nat),.int .i64 o1,.slice Ap1 np1 cp1,.int .u32 hp1,.int .u32 md1,.int .u32 pr1,.int .u32 ag1,.int .u32 ai1,.slice Ac1 nc1 cc1]) (by simp [results,Tryz.results113,go_sem,r0,r1,r2,r3,r4,r5,r6,r7,r8]) rfl ?_
 exact ⟨rfl,nine_low ST.out.low (w.heap.size+1) (by omega) (.int .i64 (hasUpto h 8:Nat)) (.int .i64 o1) (.slice Ap1 np1 cp1) (.int .u32 hp1) (.int .u32 md1) (.int .u32 pr1) (.int .u32 ag1) (.int .u32 ai1) (.slice Ac1 nc1 cc1)⟩
def presA (a:At):At:=⟨(hasUpto a.has 8:Nat),if hasB a.has 1 then a.origin else 0,if hasB a.has 2 then a.path else [],if hasB a.has 3 then a.hop else 0,if hasB a.has 4 then a.med else 0,if hasB a.has 5 then a.pref else 0,if hasB a.has 7 then a.aas else 0,if hasB a.has 7 then a.aid else 0,if hasB a.has 8 then a.comms else []⟩
theorem presA_ok {a:At} (h:a.ok):(presA a).ok:=by
 obtain ⟨h0,h1,h2,h3,h4,h5,h6⟩:=h
 unfold presA At.ok
 dsimp only
 have hu:=hasUpto_le a.has 8
 refine ⟨?_,?_,?_,?_,?_,?_,?_⟩
 ·simp [Lit.wf,IntKind.min,IntKind.max,IntKind.signed,IntKind.bits];omega
 ·split
  ·exact h1
  ·decide
 all_goals (split <;> first | assumption | omega)
theorem present_exact (v:Value) (a:At) (w:World) (hv:Attrs w v a):∃ v',Attrs w v' (presA a)∧∀ W,Below w.heap.size w W→Calls Tryz.prog 113 #[v] W (Tells v' W):=by
 obtain ⟨hok,vp,vc,rfl,hP,hC⟩:=hv
 obtain ⟨Ap,cp,rfl,-,-⟩:=hP.form
 obtain ⟨Ac,cc,rfl,-,-,-,-⟩:=hC.open_
 obtain ⟨Ap1,np1,cp1,e1⟩:∃ A n c,Value.slice A n c=if hasB a.has 2 then .slice Ap a.path.length cp else .slice none 0 0:=by split <;> exact ⟨_,_,_,rfl⟩
 obtain ⟨Ac1,nc1,cc1,e2⟩:∃ A n c,Value.slice A n c=if hasB a.has 8 then .slice Ac a.comms.length cc else .slice none 0 0:=by split <;> exact ⟨_,_,_,rfl⟩
 refine ⟨_,⟨presA_ok hok,.slice Ap1 np1 cp1,.slice Ac1 nc1 cc1,rfl,?_,?_⟩,fun W _=>pres8 a.has a.origin Ap Ac a.path.length cp a.comms.length cc a.hop a.med a.pref a.aas a.aid W _ Ap1 Ac1 np1 cp1 nc1 cc1 _ _ _ _ _ (hid rfl) (hid e1) (hid rfl) (hid rfl) (hid rfl) (hid rfl) (hid rfl) (hid e2)⟩
 ·rw [e1]
  unfold presA
  dsimp only
  split
  ·exact hP
  ·exact ⟨[],Row.nil _ 2,Nums32.nil _⟩
 ·rw [e2]
  unfold presA
  dsimp only
  split
  ·exact hC
  ·exact U32s.nil _
end Att
namespace Att
open Go.RowKit Mem Segm Oct
end Att
namespace Att
open Go.RowKit Mem Segm Oct
section
variable {w0 W W2:World} {P v:Value} {B:Nat} {x0 x1 x2 x3 x4 x5 x6 x7 x8:Value} {l l2:List Nat} {F F2:Nat→Prop} {e:Ending}
end
section
variable {w0 W W2:World} {P v:Value} {B C:Nat} {x0 x1 x2 x3 x4 x5 x6 x7 x8 k x:Value} {l l2:List Nat} {F F2:Nat→Prop} {e:Ending}
end
end Att
namespace Att
open Go.RowKit Mem Segm Oct
structure ItSt (base:Nat) (P:Value) (F0:Nat→Prop) (s:World) (C:Nat) (x0 x1 x2:Value) (l:List Nat) (F:Nat→Prop) (W:World):Prop where
 ws:Wst base P F0 s l F W
 nf:¬ F C
 bx:Box3 W C 161 x0 x1 x2
section
variable {base C:Nat} {P v x0 x1 x2:Value} {F0 F F2:Nat→Prop} {s W W2:World} {l l2:List Nat} {e:Ending}
theorem ItSt.below (h:ItSt base P F0 s C x0 x1 x2 l F W) (hb:Below W.heap.size W W2):ItSt base P F0 s C x0 x1 x2 l F W2:=⟨h.ws.below hb,h.nf,h.bx.keep hb⟩
theorem ItSt.wst (h:ItSt base P F0 s C x0 x1 x2 l F W) (k:Wst base P F W l2 F2 W2):ItSt base P F0 s C x0 x1 x2 l2 F2 W2:=by
 refine ⟨h.ws.then_ k,fun hf=>?_,⟨(k.on.block C h.bx.lt h.nf).trans h.bx.blk⟩⟩
 rcases k.gr C hf with q | q
 ·exact h.nf q
 ·have:=h.bx.lt;omega
theorem ItSt.add (h:ItSt base P F0 s C x0 x1 x2 l F W) (k:AddF base P v l2 F W e W2):∃ F2,e=.returned v∧ItSt base P F0 s C x0 x1 x2 l2 F2 W2:=by
 obtain ⟨F2,h1,h2⟩:=(Wst.new h.ws.wr).add k
 exact ⟨F2,h1,h.wst h2⟩
theorem ItSt.start (h:Wr s base P l F) (x0 x1 x2:Value):ItSt base P F s s.heap.size x0 x1 x2 l F (s.alloc (.cells #[x0,x1,x2] 161)) :=
 ⟨(Wst.new h).below ((Below.refl _ _).alloc (Nat.le_refl _) _),fun hf=>by have:=(h.lt _ hf).2;omega,Box3.new _ _ _ _ _⟩
end
theorem lo8_byte {n:Nat} (h:n<256):lo8 (n:Int)=n:=by unfold lo8;omega
theorem item_short {f k:Nat} {m:List Nat} (h:¬ f / 16 % 2=1) (hf:f<256) (hk:k<256) (hm:m.length≤255):itemB f k m=[lo8 (f:Int)] ++ ([lo8 (k:Int)] ++ sizedS m):=by
 unfold itemB sizedS
 rw [if_neg h,if_pos hm,lo8_byte hf,lo8_byte hk,lo8_byte (by omega)]
 rfl
theorem item_long {f k:Nat} {m:List Nat} (h:f / 16 % 2=1) (hf:f<256) (hk:k<256) (hm:m.length≤65535):itemB f k m=[lo8 (f:Int)] ++ ([lo8 (k:Int)] ++ longS m):=by
 unfold itemB longS
 rw [if_pos h,if_pos hm,lo8_byte hf,lo8_byte hk,big2,show lo8 ((m.length:Int) / 256)=m.length / 256 % 256 by unfold lo8;omega,show lo8 (m.length:Int)=m.length % 256 by unfold lo8;omega]
 rfl
theorem put_short (P:Value) (A:Option Addr) (c base f k:Nat) (l m:List Nat) (F0:Nat→Prop) (s:World) (hW:Wr s base P l F0) (hx:∀ W,Only F0 s W→U8s W (.slice A m.length c) m) (hlen:l.length+m.length≤700000) (hbase:base≤s.heap.size) (hf:f<256) (hk:k<256) (hm:m.length≤255) (hc:¬ f / 16 % 2=1) :
  Calls Tryz.prog 145 #[.agg #[.int .i64 f,.int .i64 k,.slice A m.length c],P] s (fun e w'=>e=.returned (.tuple #[])∧∃ F',Wst base P F0 s (l ++ itemB f k m) F' w'):=by
 rw [item_short hc hf hk hm]
 have n16:bits .and .i64 (f:Int) 16=0:=by rw [byte16 f hf,if_neg hc]
 have G0:=hid ((ItSt.start hW (.int .i64 f) (.int .i64 k) (.slice A m.length c)).below (Below.refl _ _).drew)
 have hW0:=hW
 obtain ⟨bP,sP,rfl,-⟩:=hW0
 obtain ⟨q0,q1,q2⟩:=G0.out.bx.cells
 have HB:=hid (show s.heap.size+1≤_ from G0.out.bx.lt)
 have HBS:=hid hbase
 have HX:=hid hx
 have HN:=hid hlen
 have CA:=hid (fun W (F:Nat→Prop) (l:List Nat) (n:Int) (hl:l.length≤800000) (h:Wr W base (.pointer (some ⟨bP,0,none⟩)) l F) (hb:base≤W.heap.size)=>w8_put _ _ l F n W h (by omega) hb)
 have HM:=hid hm
 clear hx hW hlen hbase hf hk hm hc
 go_enter Tryz.func145,Tryz.ntmps145
 go_wp2
 go_region_held3 (fun w'=>w'.cell? ⟨s.heap.size,0,none⟩=some (.int .i64 f)∧w'.cell? ⟨s.heap.size,1,none⟩=some (.int .i64 k)) (exact ⟨by assumption,by assumption⟩) (first
  | (have hq:=G0.out;go_at_call 62;refine (CA.out _ _ _ _ (by have:=HN.out;omega) hq.ws.wr (Nat.le_trans HBS.out hq.ws.size)).mono ?_;intro e x hA;obtain ⟨F2,rfl,hS⟩:=hq.add hA;have G1:=hid hS;clear hA hS q0 q1 q2 hq G0;obtain ⟨q0,q1,q2⟩:=G1.out.bx.cells)
  | (have hq:=G1.out;go_at_call 62;refine (CA.out _ _ _ _ (by have:=HN.out;simp;omega) hq.ws.wr (Nat.le_trans HBS.out hq.ws.size)).mono ?_;intro e x hA;obtain ⟨F3,rfl,hS⟩:=hq.add hA;have G2:=hid hS;clear hA hS q0 q1 q2 hq G1;obtain ⟨q0,q1,q2⟩:=G2.out.bx.cells))
 go_wp2_with (go_at_call 102;(refine (sizedO_any _ A c base _ m F3 _ G2.out.ws.wr (fun W' ho=>HX.out W' (G2.out.ws.only ho)) (by have:=HN.out;simp;omega) (Nat.le_trans HBS.out G2.out.ws.size)).mono ?_;intro e x hA;obtain ⟨F4,rfl,hS⟩:=G2.out.add hA;have G3:=hid hS;clear hA hS q0 q1 q2))
 go_end0
 refine ⟨rfl,F4,?_⟩
 have h:=G3.out.ws
 rw [List.append_assoc,List.append_assoc] at h
 exact h
theorem put_long (P:Value) (A:Option Addr) (c base f k:Nat) (l m:List Nat) (F0:Nat→Prop) (s:World) (hW:Wr s base P l F0) (hx:∀ W,Only F0 s W→U8s W (.slice A m.length c) m) (hlen:l.length+m.length≤700000) (hbase:base≤s.heap.size) (hf:f<256) (hk:k<256) (hm:m.length≤65535) (hc:f / 16 % 2=1) :
  Calls Tryz.prog 145 #[.agg #[.int .i64 f,.int .i64 k,.slice A m.length c],P] s (fun e w'=>e=.returned (.tuple #[])∧∃ F',Wst base P F0 s (l ++ itemB f k m) F' w'):=by
 rw [item_long hc hf hk hm]
 have n16:bits .and .i64 (f:Int) 16=16:=by rw [byte16 f hf,if_pos hc]
 have G0:=hid ((ItSt.start hW (.int .i64 f) (.int .i64 k) (.slice A m.length c)).below (Below.refl _ _).drew)
 have hW0:=hW
 obtain ⟨bP,sP,rfl,-⟩:=hW0
 obtain ⟨q0,q1,q2⟩:=G0.out.bx.cells
 have HB:=hid (show s.heap.size+1≤_ from G0.out.bx.lt)
 have HBS:=hid hbase
 have HX:=hid hx
 have HN:=hid hlen
 have CA:=hid (fun W (F:Nat→Prop) (l:List Nat) (n:Int) (hl:l.length≤800000) (h:Wr W base (.pointer (some ⟨bP,0,none⟩)) l F) (hb:base≤W.heap.size)=>w8_put _ _ l F n W h (by omega) hb)
 have HM:=hid hm
 clear hx hW hlen hbase hf hk hm hc
 go_enter Tryz.func145,Tryz.ntmps145
 go_wp2
 go_region_held3 (fun w'=>w'.cell? ⟨s.heap.size,0,none⟩=some (.int .i64 f)∧w'.cell? ⟨s.heap.size,1,none⟩=some (.int .i64 k)) (exact ⟨by assumption,by assumption⟩) (first
  | (have hq:=G0.out;go_at_call 62;refine (CA.out _ _ _ _ (by have:=HN.out;omega) hq.ws.wr (Nat.le_trans HBS.out hq.ws.size)).mono ?_;intro e x hA;obtain ⟨F2,rfl,hS⟩:=hq.add hA;have G1:=hid hS;clear hA hS q0 q1 q2 hq G0;obtain ⟨q0,q1,q2⟩:=G1.out.bx.cells)
  | (have hq:=G1.out;go_at_call 62;refine (CA.out _ _ _ _ (by have:=HN.out;simp;omega) hq.ws.wr (Nat.le_trans HBS.out hq.ws.size)).mono ?_;intro e x hA;obtain ⟨F3,rfl,hS⟩:=hq.add hA;have G2:=hid hS;clear hA hS q0 q1 q2 hq G1;obtain ⟨q0,q1,q2⟩:=G2.out.bx.cells))
 go_wp2_with (go_at_call 107;(refine (longO_any _ A c base _ m F3 _ G2.out.ws.wr (fun W' ho=>HX.out W' (G2.out.ws.only ho)) (by have:=HN.out;simp;omega) (Nat.le_trans HBS.out G2.out.ws.size)).mono ?_;intro e x hA;obtain ⟨F4,rfl,hS⟩:=G2.out.add hA;have G3:=hid hS;clear hA hS q0 q1 q2))
 go_end0
 refine ⟨rfl,F4,?_⟩
 have h:=G3.out.ws
 rw [List.append_assoc,List.append_assoc] at h
 exact h
theorem put_item (P:Value) (A:Option Addr) (c base f k:Nat) (l m:List Nat) (F0:Nat→Prop) (s:World) (hW:Wr s base P l F0) (hx:∀ W,Only F0 s W→U8s W (.slice A m.length c) m) (hlen:l.length+m.length≤700000) (hbase:base≤s.heap.size) (hf:f<256) (hk:k<256) (hm:m.length≤65535) (hc:255<m.length→f / 16 % 2=1) :
  Calls Tryz.prog 145 #[.agg #[.int .i64 f,.int .i64 k,.slice A m.length c],P] s (fun e w'=>e=.returned (.tuple #[])∧∃ F',Wst base P F0 s (l ++ itemB f k m) F' w'):=by
 by_cases h:f / 16 % 2=1
 ·exact put_long P A c base f k l m F0 s hW hx hlen hbase hf hk hm h
 ·exact put_short P A c base f k l m F0 s hW hx hlen hbase hf hk (by
   rcases Nat.lt_or_ge 255 m.length with q | q
   ·exact absurd (hc q) h
   ·exact q) h
end Att
namespace Att
open Go.RowKit Mem Segm Oct
theorem fits_any (k n:Nat) (w:World) (hS:Shp w) (hk:1≤k) (hk8:k≤8) (hn:n≤1000000):Calls Tryz.prog 160 #[.int .i64 k,.int .i64 n] w (Tells (.bool (longB k n)) w):=by
 have HB:=hid (Below.refl w.heap.size w)
 have hm:k=2∨k=8∨k=1∨k=3∨k=4∨k=5∨k=6∨k=7:=by omega
 have c0:=(hS k hk8).2
 clear hS hk hk8
 rcases hm with rfl | rfl | rfl | rfl | rfl | rfl | rfl | rfl
 ·have e:longB 2 n=true:=rfl
  rw [e]
  clear c0
  go_enter Tryz.func160,Tryz.ntmps160
  go_wp2
  go_ret
  exact ⟨rfl,HB.out⟩
 ·clear c0
  have wq:wrap64 ((n:Int) / 4)=(n:Int) / 4:=by unfold wrap64;omega
  by_cases h4:n % 4=0
  ·have y4:(n:Int) % 4=0:=by omega
   by_cases h5:n≤1020
   ·have z5:(n:Int) / 4≤255:=by omega
    have e:longB 8 n=true:=by simp [longB,h4,h5]
    rw [e]
    clear hn h4
    go_enter Tryz.func160,Tryz.ntmps160
    go_wp2
    go_ret
    first | exact ⟨rfl,HB.out⟩ | (rw [decide_eq_true z5];exact ⟨rfl,HB.out⟩) | (refine ⟨?_,HB.out⟩;simp [z5];done)
   ·have z5:decide ((n:Int) / 4≤255)=false:=decide_eq_false (by omega)
    have e:longB 8 n=false:=by simp [longB,h5]
    rw [e]
    clear hn h4
    go_enter Tryz.func160,Tryz.ntmps160
    go_wp2
    go_ret
    first | exact ⟨rfl,HB.out⟩ | (rw [z5];exact ⟨rfl,HB.out⟩) | (rw [wq,z5];exact ⟨rfl,HB.out⟩)
  ·have y4:((n:Int) % 4 == 0)=false:=by simp;omega
   have e:longB 8 n=false:=by simp [longB,h4]
   rw [e]
   clear hn h4
   go_enter Tryz.func160,Tryz.ntmps160
   go_wp2
   go_ret
   exact ⟨rfl,HB.out⟩
 all_goals
  have e:∀ m:Nat,((n:Int) == (m:Int))=decide (n=m):=fun m=>by
   by_cases h:n=m
   ·subst h;simp
   ·rw [decide_eq_false h];simp;omega
  have HE:=hid e
  clear e hn
  go_enter Tryz.func160,Tryz.ntmps160
  go_wp2
  go_ret
  refine ⟨?_,HB.out⟩
  show Ending.returned (Value.bool (_ == _))=_
  rw [HE.out]
  rfl
theorem flagged_any (f k:Nat) (vd:Value) (w:World) (hS:Shp w) (hf:f<256) (hk:1≤k) (hk8:k≤8) :
  Calls Tryz.prog 159 #[.agg #[.int .i64 f,.int .i64 k,vd]] w (Tells (.bool (decide (ownF f k=flagN k))) w):=by
 have hb0:Below w.heap.size w (w.alloc (.cells #[.int .i64 f,.int .i64 k,vd] 161)):=(Below.refl _ w).alloc (Nat.le_refl _) _
 have HB:=hid hb0
 obtain ⟨c0,c1,c2⟩:=three_cells w (.int .i64 f) (.int .i64 k) vd 161
 have CF:=hid (flags_any k _ (hS.keep hb0))
 rw [flagN_is] at CF
 have HC:=hid (fun (W:World) (h:Below (w.alloc (.cells #[.int .i64 f,.int .i64 k,vd] 161)).heap.size (w.alloc (.cells #[.int .i64 f,.int .i64 k,vd] 161)) W)=>keepsT h c0)
 have n16:=not16 f hf
 have n32:=byte32 f hf
 have o1:=or192.1
 have o2:=or192.2
 clear hS hb0
 by_cases h7:7≤k
 ·have e:flagN k=192:=by unfold flagN;rw [if_neg (by omega),if_neg (by omega),if_pos (by omega)]
  rw [e] at CF ⊢
  by_cases h32:f / 32 % 2=1
  ·rw [if_pos h32] at n32
   have HE:=hid (show (((if f / 16 % 2=1 then f - 16 else f:Nat):Int) == 224)=decide (ownF f k=192) by
    unfold ownF
    rw [if_pos (show 7≤k∧f / 32 % 2=1 from ⟨h7,h32⟩)]
    by_cases hq:(if f / 16 % 2=1 then f - 16 else f)=224
    ·rw [hq];rfl
    ·rw [decide_eq_false (by omega)];simp;omega)
   generalize (if f / 16 % 2=1 then f - 16 else f)=g at n16 HE
   generalize decide (ownF f k=192)=r at HE ⊢
   clear h32 h7 hf hk hk8 e
   go_enter Tryz.func159,Tryz.ntmps159
   go_wp2_with (go_at_call 143;refine (CF.out).mono ?_;rintro e w1 ⟨rfl,hb⟩;have HB1:=hid (HB.out.trans (hb.mono HB.out.size));have c0':=HC.out _ hb;clear hb)
   go_ret
   exact ⟨by rw [← HE.out];rfl,HB1.out⟩
  ·rw [if_neg h32] at n32
   have HE:=hid (show (((if f / 16 % 2=1 then f - 16 else f:Nat):Int) == 192)=decide (ownF f k=192) by
    unfold ownF
    rw [if_neg (show ¬ (7≤k∧f / 32 % 2=1) from fun h=>h32 h.2)]
    by_cases hq:(if f / 16 % 2=1 then f - 16 else f)=192
    ·rw [hq];rfl
    ·rw [decide_eq_false (by omega)];simp;omega)
   generalize (if f / 16 % 2=1 then f - 16 else f)=g at n16 HE
   generalize decide (ownF f k=192)=r at HE ⊢
   clear h32 h7 hf hk hk8 e
   go_enter Tryz.func159,Tryz.ntmps159
   go_wp2_with (go_at_call 143;refine (CF.out).mono ?_;rintro e w1 ⟨rfl,hb⟩;have HB1:=hid (HB.out.trans (hb.mono HB.out.size));have c0':=HC.out _ hb;clear hb)
   go_ret
   exact ⟨by rw [← HE.out];rfl,HB1.out⟩
 ·have hne:flagN k≠192:=by unfold flagN;split <;> (try split) <;> (try split) <;> omega
  have HE:=hid (show (((if f / 16 % 2=1 then f - 16 else f:Nat):Int) == (flagN k:Nat))=decide (ownF f k=flagN k) by
   unfold ownF
   rw [if_neg (show ¬ (7≤k∧f / 32 % 2=1) from fun h=>h7 h.1)]
   by_cases hq:(if f / 16 % 2=1 then f - 16 else f)=flagN k
   ·rw [hq];simp
   ·rw [decide_eq_false (by omega)];simp;omega)
  generalize (if f / 16 % 2=1 then f - 16 else f)=g at n16 HE
  generalize decide (ownF f k=flagN k)=r at HE ⊢
  generalize flagN k=F at CF HE hne
  have y0:((F:Int) == 192)=false:=by simp;omega
  clear h7 hf hk hk8 hne
  go_enter Tryz.func159,Tryz.ntmps159
  go_wp2_with (go_at_call 143;refine (CF.out).mono ?_;rintro e w1 ⟨rfl,hb⟩;have HB1:=hid (HB.out.trans (hb.mono HB.out.size));have c0':=HC.out _ hb;clear hb)
  go_ret
  exact ⟨by rw [← HE.out];rfl,HB1.out⟩
theorem numbers_any (v:Value) (p:List Piece) (w:World) (hv:Segs w v p) (hl:lens p≤100000) :
  Calls Tryz.prog 115 #[v] w (Tells (.int .i64 (lens p:Nat)) w):=by
 have HV:=hid hv
 obtain ⟨A,c,rfl,hlc,hc⟩:=hv.form
 have HL:=hid hl
 have HB0:=hid (Below.refl w.heap.size w)
 clear hv hl
 go_enter Tryz.func115,Tryz.ntmps115
 go_wp2
 go_loopw [3,8] (fun v3 v8 wr=>∃ i:Nat,i≤p.length∧v3=.int .i64 (lens (p.take i):Nat)∧v8=.int .i64 i∧Hid (Below w.heap.size w wr)) (fun _ v8 _=>p.length - (intOf v8).toNat)
 case atStart=>exact ⟨0,Nat.zero_le _,rfl,rfl,HB0⟩
 case round =>
  obtain ⟨i,hi,rfl,rfl,HBW⟩:=hrel
  by_cases hlt:i<p.length
  ·obtain ⟨s,hs⟩:∃ s,p[i]?=some s:=⟨_,List.getElem?_eq_getElem hlt⟩
   obtain ⟨b,off,x,rfl,hbl,k1,k2,hx⟩:=(HV.out.keep HBW.out).at_ hs
   obtain ⟨Ax,cx,rfl,hlx,hcx,-,-⟩:=hx.open_
   have HE:=hid (lens_take hs)
   have HM:=hid (Nat.le_trans (lens_take_le p (i+1)) HL.out)
   obtain ⟨m,hm⟩:∃ m,m=s.2.length:=⟨_,rfl⟩
   rw [← hm] at k2 HE
   have z0:(0:Int)≤(i:Int):=by omega
   have z1:(i:Int)<(p.length:Int):=by omega
   have y1:wrap64 ((lens (p.take i):Nat)+(m:Int))=((lens (p.take (i+1)):Nat):Int):=by
    have e:=HE.out
    have e2:=HM.out
    rw [e] at e2 ⊢
    unfold wrap64
    omega
   have HB2:=hid (HBW.out.alloc HBW.out.size (.cells #[.int .i64 s.1,.slice Ax m cx] 108))
   clear hx hs hm
   go_wp2
   go_roundw
   case rel=>exact ⟨i+1,by omega,by first | exact congrArg _ y1 | (rw [y1]) | go_num,by go_num,HB2⟩
   case measure=>simp [intOf];omega
  ·obtain rfl:i=p.length:=by omega
   have z1:decide ((p.length:Int)<(p.length:Int))=false:=by simp
   have e:lens (p.take p.length)=lens p:=by rw [List.take_length]
   rw [e]
   go_wp2
   go_ret
   exact ⟨rfl,HBW.out⟩
end Att
namespace Att
open Go.RowKit Mem Segm Rise
end Att
namespace Att
open Go.RowKit Mem Segm Rise
end Att
namespace Att
open Go.RowKit Mem Segm Oct
section
variable {w0 W W2:World} {P:Value} {B:Nat} {x0 x1 x2 x3 x4 x5 x6 x7 x8:Value} {l:List Nat} {F:Nat→Prop}
end
end Att
namespace Att
open Go.RowKit Mem Segm Oct
end Att
end Go.Proofs.YtjfmompgkkdliaaGreatDoor
