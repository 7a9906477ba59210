/- Part of the proof. -/
import Derived.Test.YtjfmompgkkdliaaGreatDoorG20
import Derived.Test.YtjfmompgkkdliaaGreatDoorG22
import Derived.Test.YtjfmompgkkdliaaGreatDoorG03
import Derived.Test.YtjfmompgkkdliaaGreatDoorG25
import Derived.Test.YtjfmompgkkdliaaGreatDoorG11
import Derived.Test.YtjfmompgkkdliaaGreatDoorG04
import Derived.Test.YtjfmompgkkdliaaGreatDoorG02
import Derived.BigQuiet
import Derived.BigRegion
import Derived.RegionTactic
import Derived.Deep.CutBlock
import Derived.Deep.DeepCutAuto
import Derived.Test.YtjfmompgkkdliaaGreatDoorG01
import Derived.Test.YtjfmompgkkdliaaGreatDoorG09
import Derived.Deep.RegionHeld3
import Derived.Test.YtjfmompgkkdliaaGreatDoorG19
open Go.Lib (hid)
set_option maxRecDepth 100000
set_option maxHeartbeats 40000000
namespace Go.Proofs.YtjfmompgkkdliaaGreatDoor
namespace Att
open Segm Rise Oct
def fours (l:List Nat):List Nat:=l.flatMap fun n=>big n 4
theorem fours_cons (n:Nat) (l:List Nat):fours (n :: l)=big n 4 ++ fours l:=rfl
theorem fours_append (l m:List Nat):fours (l ++ m)=fours l ++ fours m:=by simp [fours]
theorem fours_len:∀ l:List Nat,(fours l).length=4*l.length
 | []=>rfl
 | n :: l=>by rw [fours_cons,List.length_append,big_len,fours_len l,List.length_cons];omega
theorem fours_small:∀ l:List Nat,Small (fours l)
 | []=>small_nil
 | n :: l=>by rw [fours_cons];exact (big_small n 4).append (fours_small l)
def segB (s:Piece):List Nat:=lo8 s.1 :: lo8 (s.2.length:Int) :: fours s.2
def pathB (p:List Piece):List Nat:=p.flatMap segB
theorem pathB_append (p q:List Piece):pathB (p ++ q)=pathB p ++ pathB q:=by simp [pathB]
theorem pathB_cons (s:Piece) (q:List Piece):pathB (s :: q)=segB s ++ pathB q:=rfl
theorem segB_len (s:Piece):(segB s).length=2+4*s.2.length:=by unfold segB;simp only [List.length_cons,fours_len];omega
theorem segB_small (s:Piece):Small (segB s):=by
 unfold segB
 intro n hn
 simp only [List.mem_cons] at hn
 rcases hn with rfl | rfl | h
 ·exact lo8_lt _
 ·exact lo8_lt _
 ·exact fours_small _ n h
theorem pathB_small:∀ p:List Piece,Small (pathB p)
 | []=>small_nil
 | s :: p=>by rw [pathB_cons];exact (segB_small s).append (pathB_small p)
theorem pathB_len:∀ p:List Piece,(pathB p).length=2*p.length+4*lens p
 | []=>rfl
 | s :: p=>by
  rw [pathB_cons,List.length_append,segB_len,pathB_len p,List.length_cons]
  have e:lens (s :: p)=s.2.length+lens p:=by simp [lens]
  rw [e];omega
def valB (a:At) (k:Nat):List Nat :=
 if k=1 then [lo8 a.origin] else if k=2 then pathB a.path else if k=3 then big a.hop 4 else if k=4 then big a.med 4 else if k=5 then big a.pref 4 else if k=7 then big a.aas 4 ++ big a.aid 4 else if k=8 then fours a.comms else []
def flagN (k:Nat):Nat:=if k=1∨k=2∨k=3∨k=5∨k=6 then 64 else if k=4 then 128 else if k=7∨k=8 then 192 else 0
theorem flagN_is (k:Nat):flagsN (k:Int)=(flagN k:Int):=by
 unfold flagsN flagN
 by_cases h1:k=1∨k=2∨k=3∨k=5∨k=6
 ·rw [if_pos h1,if_pos (by omega)];rfl
 ·rw [if_neg h1,if_neg (by omega)]
  by_cases h2:k=4
  ·rw [if_pos h2,if_pos (by omega)];rfl
  ·rw [if_neg h2,if_neg (by omega)]
   by_cases h3:k=7∨k=8
   ·rw [if_pos h3,if_pos (by omega)];rfl
   ·rw [if_neg h3,if_neg (by omega)];rfl
def itemB (f k:Nat) (v:List Nat):List Nat:=if f / 16 % 2=1 then f :: k :: (big v.length 2 ++ v) else f :: k :: v.length :: v
def longF (f n:Nat):Nat:=if 255<n then f+16 else f
def attrB (a:At) (k:Nat):List Nat:=itemB (longF (flagN k) (valB a k).length) k (valB a k)
def encTo (a:At):Nat→List Nat
 | 0=>[]
 | k+1=>encTo a k ++ if hasB a.has ((k+1:Nat):Int) then attrB a (k+1) else []
def encA (a:At):List Nat:=encTo a 8
structure Item where
 f:Nat
 k:Nat
 v:List Nat
 r:List Nat
def itemOf (b:List Nat):Option Item:=match b with
 | f :: k :: r =>
  if f / 16 % 2=1 then (match r with
   | n1 :: n0 :: r2=>if n1*256+n0≤r2.length then some ⟨f,k,r2.take (n1*256+n0),r2.drop (n1*256+n0)⟩ else none
   | _=>none)
  else (match r with
   | n0 :: r2=>if n0≤r2.length then some ⟨f,k,r2.take n0,r2.drop n0⟩ else none
   | _=>none)
 | _=>none
def pathOf:Nat→List Nat→Option (List Piece)
 | 0,b=>if b=[] then some [] else none
 | n+1,b=>match b with
  | []=>some []
  | k :: c :: r=>if (k=1∨k=2)∧c≠0∧4*c≤r.length then (pathOf n (r.drop (4*c))).map fun l=>((k:Int),quadsN r c) :: l else none
  | _=>none
def pathIs (b:List Nat):Option (List Piece):=pathOf b.length b
def ownF (f k:Nat):Nat:=(if f / 16 % 2=1 then f - 16 else f) - (if 7≤k∧f / 32 % 2=1 then 32 else 0)
def subOf (f k:Nat) (v:List Nat):Nat :=
 if k<1∨8<k then (if f<128 then 2 else 0)
 else if ownF f k≠flagN k then 4
 else if longB k v.length=false then 5
 else if k=1 then (if 2<val v then 6 else 0)
 else if k=2 then (match pathIs v with | some p=>if goodP (normS p) && decide (lens p≤2000) then 0 else 11 | none=>11)
 else if k=3 then (if hopB (val v) then 0 else 8)
 else 0
def layA (a:At) (k:Nat) (v:List Nat):At :=
 if k<1∨8<k then a else
 ⟨a.has+2 ^ k,if k=1 then (val v:Nat) else a.origin,if k=2 then (pathIs v).getD [] else a.path,if k=3 then val v else a.hop,if k=4 then val v else a.med,if k=5 then val v else a.pref,
  if k=7 then val (v.take 4) else a.aas,if k=7 then val (v.drop 4) else a.aid,if k=8 then quads v else a.comms⟩
def badN (s:Nat) (x:Item):No:=⟨3,s,if s=11 then [] else itemB x.f x.k x.v⟩
def decA:Nat→List Nat→At→List Nat→No ⊕ At
 | 0,_,a,_=>.inr (normA a)
 | n+1,seen,a,b=>if b=[] then .inr (normA a) else match itemOf b with
  | none=>.inl ⟨3,1,[]⟩
  | some x=>if x.k∈seen then .inl ⟨3,1,[]⟩ else if subOf x.f x.k x.v=0 then decA n (x.k :: seen) (layA a x.k x.v) x.r else .inl (badN (subOf x.f x.k x.v) x)
def decodeA (b:List Nat):No ⊕ At:=decA b.length [] zeroA b
def noneN:No:=⟨0,0,[]⟩
def outA:No ⊕ At→At × No
 | .inl n=>(zeroA,n)
 | .inr a=>(a,noneN)
end Att
namespace Att
open Go.RowKit Mem Segm Oct
def wideN (k:Nat):Nat:=if k=1 then 1 else if k=3∨k=4∨k=5 then 4 else if k=7 then 8 else 0
def Shp (W:World):Prop:=∀ k:Nat,k≤8→W.cell? ⟨0,2*k,none⟩=some (.int .i64 (flagN k:Nat))∧W.cell? ⟨0,2*k+1,none⟩=some (.int .i64 (wideN k:Nat))
theorem Shp.keep {W W':World} (h:Shp W) (hb:Below W.heap.size W W'):Shp W':=fun k hk =>
 ⟨keeps hb (h k hk).1,keeps hb (h k hk).2⟩
theorem has_any (h:Int) (k:Nat) (x1 x2 x3 x4 x5 x6 x7 x8:Value) (w:World) (hk:k≤8) :
  Calls Tryz.prog 116 #[.agg #[.int .i64 h,x1,x2,x3,x4,x5,x6,x7,x8],.int .i64 k] w (Tells (.bool (hasB h k)) w):=by
 have HB:=hid (show Below w.heap.size w (w.alloc (.cells #[.int .i64 h,x1,x2,x3,x4,x5,x6,x7,x8] 29)) from (Below.refl _ w).alloc (Nat.le_refl _) _)
 obtain ⟨c0,-⟩:=(Box9.new w 29 (.int .i64 h) x1 x2 x3 x4 x5 x6 x7 x8).cells
 have e:wrap64 ((2:Int) ^ k)=2 ^ k:=by
  have h1:(2:Int) ^ k=((2 ^ k:Nat):Int):=by simp
  have h2:2 ^ k≤256:=Nat.le_trans (Nat.pow_le_pow_right (by omega) hk) (by decide)
  rw [h1]
  generalize 2 ^ k=y at h2
  unfold wrap64;omega
 have HP:=hid (show (bits .and .i64 h (wrap64 (2 ^ k)) != 0)=hasB h k by rw [e];exact and_pow_has h k hk)
 clear e
 have z0:(0:Int)≤(k:Int):=by omega
 go_enter Tryz.func116,Tryz.ntmps116
 go_wp2
 go_quiet (fail)
 go_wp2
 go_ret
 exact ⟨by rw [← HP.out];rfl,HB.out.trans ((Mem.below_drewN _ _).mono HB.out.size)⟩
theorem hop_any (a:Nat) (w:World) (ha:a<4294967296):Calls Tryz.prog 117 #[.int .u32 a] w (Tells (.bool (hopB a)) w):=by
 have HB:=hid (Below.refl w.heap.size w)
 by_cases h0:a=0
 ·subst h0
  go_enter Tryz.func117,Tryz.ntmps117
  go_wp2
  go_ret
  exact ⟨rfl,HB.out⟩
 ·by_cases h1:a=4294967295
  ·subst h1
   go_enter Tryz.func117,Tryz.ntmps117
   go_wp2
   go_ret
   exact ⟨rfl,HB.out⟩
  ·have y0:((a:Int) != 0)=true:=by simp;omega
   have y1:((a:Int) != 4294967295)=true:=by simp;omega
   by_cases h2:(a:Int)<3758096384
   ·by_cases h3:True
    ·have e:hopB a=true:=by unfold hopB;rw [decide_eq_true h0,decide_eq_true h1,decide_eq_true (show a / 268435456≠14 by omega)];rfl
     rw [e]
     clear e ha
     go_enter Tryz.func117,Tryz.ntmps117
     go_wp2
     go_ret
     exact ⟨rfl,HB.out⟩
    ·exact absurd trivial h3
   ·have d2:decide ((a:Int)<3758096384)=false:=decide_eq_false h2
    by_cases h3:(4026531839:Int)<(a:Int)
    ·have e:hopB a=true:=by unfold hopB;rw [decide_eq_true h0,decide_eq_true h1,decide_eq_true (show a / 268435456≠14 by omega)];rfl
     rw [e]
     clear e ha
     go_enter Tryz.func117,Tryz.ntmps117
     go_wp2
     go_ret
     exact ⟨rfl,HB.out⟩
    ·have d3:decide ((4026531839:Int)<(a:Int))=false:=decide_eq_false h3
     have e:hopB a=false:=by unfold hopB;rw [decide_eq_true h0,decide_eq_true h1,decide_eq_false (show ¬ a / 268435456≠14 by omega)];rfl
     rw [e]
     clear e ha
     go_enter Tryz.func117,Tryz.ntmps117
     go_wp2
     go_ret
     exact ⟨rfl,HB.out⟩
theorem known_any (k:Int) (w:World):Calls Tryz.prog 158 #[.int .i64 k] w (Tells (.bool (decide (1≤k) && decide (k≤8))) w):=by
 have HB:=hid (Below.refl w.heap.size w)
 by_cases h0:1≤k
 ·have HE:=hid (show (decide (1≤k) && decide (k≤8))=decide (k≤8) by rw [decide_eq_true h0];rfl)
  rw [HE.out]
  go_enter Tryz.func158,Tryz.ntmps158
  go_wp2
  go_ret
  exact ⟨rfl,HB.out⟩
 ·have d0:decide (1≤k)=false:=decide_eq_false h0
  rw [d0]
  go_enter Tryz.func158,Tryz.ntmps158
  go_wp2
  go_ret
  exact ⟨rfl,HB.out⟩
theorem flags_any (k:Int) (w:World) (hS:Shp w):Calls Tryz.prog 143 #[.int .i64 k] w (Tells (.int .i64 (flagsN k)) w):=by
 by_cases hk:1≤k∧k≤8
 ·obtain ⟨m,rfl⟩:=Int.eq_ofNat_of_zero_le (show 0≤k by omega)
  have CK:=hid (fun W=>show Calls Tryz.prog 158 #[.int .i64 m] W (Tells (.bool true) W) from by
   have h:=known_any (m:Int) W
   rw [decide_eq_true hk.1,decide_eq_true hk.2] at h
   exact h)
  have HS:=hid hS
  rw [flagN_is]
  have z0:(0:Int)≤(m:Int):=by omega
  have z9:(m:Int)<9:=by omega
  have hm:m≤8:=by omega
  have e2:m*2=2*m:=by omega
  clear hS hk
  go_enter Tryz.func143,Tryz.ntmps143
  go_wp2_with (go_at_call 158;refine (CK.out _).mono ?_;rintro e w1 ⟨rfl,hb⟩;have HB:=hid hb;have c0:=(HS.out.keep hb m hm).1;clear hb)
  go_ret
  exact ⟨rfl,HB.out⟩
 ·have CK:=hid (fun W=>show Calls Tryz.prog 158 #[.int .i64 k] W (Tells (.bool false) W) from by
   have h:=known_any k W
   rw [show (decide (1≤k) && decide (k≤8))=false by
    by_cases h1:1≤k
    ·rw [decide_eq_false (show ¬ k≤8 from fun h2=>hk ⟨h1,h2⟩)];simp
    ·rw [decide_eq_false h1];rfl] at h
   exact h)
  have e:flagsN k=0:=by unfold flagsN;rw [if_neg (by omega),if_neg (by omega),if_neg (by omega)]
  rw [e]
  clear hS hk
  go_enter Tryz.func143,Tryz.ntmps143
  go_wp2_with (go_at_call 158;refine (CK.out _).mono ?_;rintro e w1 ⟨rfl,hb⟩;have HB:=hid hb;clear hb)
  go_ret
  exact ⟨rfl,HB.out⟩
end Att
namespace Att
open Go.RowKit Mem Segm Oct
def wellN (h:Int):No:=if hasB h 1=false then ⟨3,3,[1]⟩ else if hasB h 2=false then ⟨3,3,[2]⟩ else if hasB h 3=false then ⟨3,3,[3]⟩ else ⟨0,0,[]⟩
theorem well_step {h:Int} {j:Nat} (hj:j<3) (ha:∀ k:Nat,1≤k→k≤j→hasB h (k:Int)=true) (hb:hasB h ((j+1:Nat):Int)=false):wellN h=⟨3,3,[j+1]⟩:=by
 unfold wellN
 match j,hj with
 | 0,_=>rw [if_pos (show hasB h 1=false from hb)]
 | 1,_=>rw [if_neg (by rw [show hasB h 1=true from ha 1 (by omega) (by omega)];decide),if_pos (show hasB h 2=false from hb)]
 | 2,_=>rw [if_neg (by rw [show hasB h 1=true from ha 1 (by omega) (by omega)];decide),if_neg (by rw [show hasB h 2=true from ha 2 (by omega) (by omega)];decide),if_pos (show hasB h 3=false from hb)]
theorem well_all {h:Int} (ha:∀ k:Nat,1≤k→k≤3→hasB h (k:Int)=true):wellN h=⟨0,0,[]⟩:=by
 unfold wellN
 rw [if_neg (by rw [show hasB h 1=true from ha 1 (by omega) (by omega)];decide),if_neg (by rw [show hasB h 2=true from ha 2 (by omega) (by omega)];decide),if_neg (by rw [show hasB h 3=true from ha 3 (by omega) (by omega)];decide)]
theorem well_any (v:Value) (a:At) (w:World) (hv:Attrs w v a):Calls Tryz.prog 68 #[v] w (fun e w'=>∃ v',e=.returned v'∧Note w' v' (wellN a.has)∧Below w.heap.size w w'):=by
 obtain ⟨_,vp,vc,rfl,-,-⟩:=hv
 obtain ⟨h,o,p,hp,md,pr,ag,ai,cm⟩:=a
 dsimp only
 unfold acells
 dsimp only
 have H1:=Box9.new w 29 (.int .i64 h) (.int .i64 o) vp (.int .u32 hp) (.int .u32 md) (.int .u32 pr) (.int .u32 ag) (.int .u32 ai) vc
 have B1:Below w.heap.size w (w.alloc (.cells #[.int .i64 h,.int .i64 o,vp,.int .u32 hp,.int .u32 md,.int .u32 pr,.int .u32 ag,.int .u32 ai,vc] 29)):=(Below.refl _ w).alloc (Nat.le_refl _) _
 have e1:(w.alloc (.cells #[.int .i64 h,.int .i64 o,vp,.int .u32 hp,.int .u32 md,.int .u32 pr,.int .u32 ag,.int .u32 ai,vc] 29)).heap.size=w.heap.size+1:=by simp
 have H2:=Box3.new (w.alloc (.cells #[.int .i64 h,.int .i64 o,vp,.int .u32 hp,.int .u32 md,.int .u32 pr,.int .u32 ag,.int .u32 ai,vc] 29)) 34 (.int .i64 0) (.int .i64 0) (.slice none 0 0)
 rw [e1] at H2
 have HX:=hid (And.intro (H1.keep ((Below.refl _ _).alloc (Nat.le_refl _) (.cells #[.int .i64 0,.int .i64 0,.slice none 0 0] 34))) (And.intro H2 (B1.alloc B1.size (.cells #[.int .i64 0,.int .i64 0,.slice none 0 0] 34))))
 have CH:=hid (fun (k:Nat) (hk:k≤8) (W:World)=>has_any h k (.int .i64 o) vp (.int .u32 hp) (.int .u32 md) (.int .u32 pr) (.int .u32 ag) (.int .u32 ai) vc W hk)
 clear H1 B1 e1 H2
 go_enter Tryz.func68,Tryz.ntmps68
 go_wp2
 go_loopw [3] (fun v3 wx=>∃ j:Nat,j≤3∧v3=.int .i64 ((j+1:Nat):Int)∧Hid (∀ k:Nat,1≤k→k≤j→hasB h (k:Int)=true)∧Hid (Box9 wx w.heap.size 29 (.int .i64 h) (.int .i64 o) vp (.int .u32 hp) (.int .u32 md) (.int .u32 pr) (.int .u32 ag) (.int .u32 ai) vc∧Box3 wx (w.heap.size+1) 34 (.int .i64 0) (.int .i64 0) (.slice none 0 0)∧Below w.heap.size w wx)) (fun v3 _=>5 - (intOf v3).toNat)
 case atStart=>exact ⟨0,by omega,rfl,hid (fun k h1 h2=>by omega),HX⟩
 case round =>
  obtain ⟨j,hj,rfl,hall,ST⟩:=hrel
  obtain ⟨c0,c1,c2,c3,c4,c5,c6,c7,c8⟩:=ST.out.1.cells
  by_cases hlt:j<3
  ·have z1:((j+1:Nat):Int)≤3:=by omega
   cases hb:hasB h ((j+1:Nat):Int) with
   | true =>
    have CHJ:=hid (fun W=>CH.out (j+1) (by omega) W)
    rw [hb] at CHJ
    have HA:=hid (show ∀ k:Nat,1≤k→k≤j+1→hasB h (k:Int)=true from fun k h1 h2=>by
     by_cases e:k=j+1
     ·subst e;exact hb
     ·exact hall.out k h1 (by omega))
    clear hb
    go_wp2_with (go_at_call 116;refine (CHJ.out _).mono ?_;rintro e x ⟨rfl,hx⟩;have S2:=hid (And.intro (ST.out.1.keep hx) (And.intro (ST.out.2.1.keep hx) (ST.out.2.2.trans (hx.mono ST.out.2.2.size))));clear hx c0 c1 c2 c3 c4 c5 c6 c7 c8)
    go_roundw
    case rel=>exact ⟨j+1,by omega,by go_num,HA,S2⟩
    case measure=>simp [intOf];omega
   | false =>
    have CHJ:=hid (fun W=>CH.out (j+1) (by omega) W)
    rw [hb] at CHJ
    have HN:=hid (well_step hlt hall.out hb)
    have w8:IntKind.u8.wrap ((j+1:Nat):Int)=((j+1:Nat):Int):=by rw [IntKind.wrap_u8];omega
    clear hb
    obtain ⟨jj,hjj⟩:∃ jj,jj=j+1:=⟨_,rfl⟩
    rw [← hjj] at CHJ HN w8 z1
    rw [← hjj]
    have hj4:jj<4:=by omega
    clear hlt hj hall hjj
    go_wp2_with (go_at_call 116;refine (CHJ.out _).mono ?_;rintro e x ⟨rfl,hx⟩;have S2:=hid (And.intro (ST.out.1.keep hx) (And.intro (ST.out.2.1.keep hx) (ST.out.2.2.trans (hx.mono ST.out.2.2.size))));have S3:=hid (S2.out.2.1.keep ((Below.refl _ x).alloc (Nat.le_refl _) (.cells #[.int .u8 jj] 5)));clear hx c0 c1 c2 c3 c4 c5 c6 c7 c8;obtain ⟨d0,d1,d2⟩:=S3.out.cells;have ff:=S3.out.free)
    (try simp only [Exit.inBlock,Exit.then])
    obtain ⟨r0,r1,r2⟩:=(S3.out.laid (.int .i64 3) (.int .i64 3) (.slice (some ⟨x.heap.size,0,none⟩) 1 1)).cells
    unfold three at r0 r1 r2
    refine bodyPost_ret (v:=.agg #[.int .i64 3,.int .i64 3,.slice (some ⟨x.heap.size,0,none⟩) 1 1]) (by simp [results,Tryz.results68,go_sem,r0,r1,r2]) rfl ?_
    have hlt:=S2.out.2.1.lt
    have hU:U8s (x.alloc (.cells #[.int .u8 jj] 5)) (.slice (some ⟨x.heap.size,0,none⟩) 1 1) [jj]:=lit8 _ _ _ _ (fun n hn=>by rw [List.mem_singleton.1 hn];omega) rfl rfl (by decide)
    have ho:=three_off (x.alloc (.cells #[.int .u8 jj] 5)) (w.heap.size+1) (.int .i64 3) (.int .i64 3) (.slice (some ⟨x.heap.size,0,none⟩) 1 1)
    refine ⟨_,rfl,?_,three_low (S2.out.2.2.alloc S2.out.2.2.size _) _ (by omega) _ _ _⟩
    rw [HN.out]
    exact ⟨show (Lit.int .i64 3).wf=true by decide,show (Lit.int .i64 3).wf=true by decide,_,rfl,hU.part (fun g hg=>ho.1 g (by have hq:x.heap.size=g:=Option.some.inj hg;omega)) ho.2⟩
  ·obtain rfl:j=3:=by omega
   have HN:=hid (well_all hall.out)
   obtain ⟨d0,d1,d2⟩:=ST.out.2.1.cells
   have ff:=ST.out.2.1.free
   go_wp2
   (try simp only [Exit.inBlock,Exit.then])
   obtain ⟨r0,r1,r2⟩:=(ST.out.2.1.laid (.int .i64 0) (.int .i64 0) (.slice none 0 0)).cells
   unfold three at r0 r1 r2
   refine bodyPost_ret (v:=.agg #[.int .i64 0,.int .i64 0,.slice none 0 0]) (by simp [results,Tryz.results68,go_sem,r0,r1,r2]) rfl ?_
   refine ⟨_,rfl,?_,three_low ST.out.2.2 _ (by omega) _ _ _⟩
   rw [HN.out]
   exact ⟨by decide,by decide,_,rfl,U8s.nil _⟩
end Att
namespace Att
open Go.RowKit Mem Segm Oct
theorem upto_form (h:Int):∃ x:Nat,hasUpto h 8=x % 512 - x % 2∧∀ k:Nat,1≤k→k≤8→hasB h (k:Int)=(x / 2 ^ k % 2 == 1):=by
 have H:∀ k:Nat,1≤k→k≤8→hasB h (k:Int)=((h % 18446744073709551616).toNat / 2 ^ k % 2 == 1):=fun k h1 h8=>by
  generalize hx:(h % 18446744073709551616).toNat=x
  rw [hasB_in (by omega)]
  have hx0:(x:Int)=h % 18446744073709551616:=by omega
  have hk2:k=1∨k=2∨k=3∨k=4∨k=5∨k=6∨k=7∨k=8:=by omega
  have e:h / 2 ^ k % 2=((x / 2 ^ k % 2:Nat):Int):=by
   rcases hk2 with rfl | rfl | rfl | rfl | rfl | rfl | rfl | rfl <;> simp only [Nat.reducePow,Int.reducePow] <;> omega
  rw [e]
  by_cases hd:x / 2 ^ k % 2=1
  ·rw [hd];rfl
  ·rw [show x / 2 ^ k % 2=0 by omega];rfl
 exact ⟨_,hasUpto_nat H 8 (by omega),H⟩
theorem hasB_upto (h:Int) (k:Nat) (h1:1≤k) (h8:k≤8):hasB (hasUpto h 8:Nat) (k:Int)=hasB h (k:Int):=by
 obtain ⟨x,e,H⟩:=upto_form h
 rw [H k h1 h8,e,hasB_in (by omega)]
 have hk2:k=1∨k=2∨k=3∨k=4∨k=5∨k=6∨k=7∨k=8:=by omega
 have e2:(((x % 512 - x % 2:Nat):Int)) / 2 ^ k % 2=((x / 2 ^ k % 2:Nat):Int):=by
  rcases hk2 with rfl | rfl | rfl | rfl | rfl | rfl | rfl | rfl <;> simp only [Nat.reducePow,Int.reducePow] <;> omega
 rw [e2]
 by_cases hd:x / 2 ^ k % 2=1
 ·rw [hd];rfl
 ·rw [show x / 2 ^ k % 2=0 by omega];rfl
structure PresSt (w:World) (y0 y1 y2 y3 y4 y5 y6 y7 y8:Value) (W:World):Prop where
 b1:Box9 W w.heap.size 29 y0 y1 y2 y3 y4 y5 y6 y7 y8
 b2:Box9 W (w.heap.size+1) 29 (.int .i64 0) (.int .i64 0) (.slice none 0 0) (.int .u32 0) (.int .u32 0) (.int .u32 0) (.int .u32 0) (.int .u32 0) (.slice none 0 0)
 low:Below w.heap.size w W
section
variable {w W W':World} {y0 y1 y2 y3 y4 y5 y6 y7 y8:Value}
theorem PresSt.below (h:PresSt w y0 y1 y2 y3 y4 y5 y6 y7 y8 W) (hb:Below W.heap.size W W'):PresSt w y0 y1 y2 y3 y4 y5 y6 y7 y8 W' :=
 ⟨h.b1.keep hb,h.b2.keep hb,h.low.trans (hb.mono h.low.size)⟩
theorem PresSt.set0 (h:PresSt w y0 y1 y2 y3 y4 y5 y6 y7 y8 W) (v:Value):PresSt w v y1 y2 y3 y4 y5 y6 y7 y8 (W.setCell ⟨w.heap.size,0,none⟩ v) :=
 ⟨h.b1.set0 v,box_far h.b2 (by omega),h.low.setCell (p:=⟨w.heap.size,0,none⟩) (Nat.le_refl _) _⟩
theorem PresSt.set1 (h:PresSt w y0 y1 y2 y3 y4 y5 y6 y7 y8 W) (v:Value):PresSt w y0 v y2 y3 y4 y5 y6 y7 y8 (W.setCell ⟨w.heap.size,1,none⟩ v) :=
 ⟨h.b1.set1 v,box_far h.b2 (by omega),h.low.setCell (p:=⟨w.heap.size,1,none⟩) (Nat.le_refl _) _⟩
theorem PresSt.set2 (h:PresSt w y0 y1 y2 y3 y4 y5 y6 y7 y8 W) (v:Value):PresSt w y0 y1 v y3 y4 y5 y6 y7 y8 (W.setCell ⟨w.heap.size,2,none⟩ v) :=
 ⟨h.b1.set2 v,box_far h.b2 (by omega),h.low.setCell (p:=⟨w.heap.size,2,none⟩) (Nat.le_refl _) _⟩
theorem PresSt.set3 (h:PresSt w y0 y1 y2 y3 y4 y5 y6 y7 y8 W) (v:Value):PresSt w y0 y1 y2 v y4 y5 y6 y7 y8 (W.setCell ⟨w.heap.size,3,none⟩ v) :=
 ⟨h.b1.set3 v,box_far h.b2 (by omega),h.low.setCell (p:=⟨w.heap.size,3,none⟩) (Nat.le_refl _) _⟩
theorem PresSt.set4 (h:PresSt w y0 y1 y2 y3 y4 y5 y6 y7 y8 W) (v:Value):PresSt w y0 y1 y2 y3 v y5 y6 y7 y8 (W.setCell ⟨w.heap.size,4,none⟩ v) :=
 ⟨h.b1.set4 v,box_far h.b2 (by omega),h.low.setCell (p:=⟨w.heap.size,4,none⟩) (Nat.le_refl _) _⟩
theorem PresSt.set5 (h:PresSt w y0 y1 y2 y3 y4 y5 y6 y7 y8 W) (v:Value):PresSt w y0 y1 y2 y3 y4 v y6 y7 y8 (W.setCell ⟨w.heap.size,5,none⟩ v) :=
 ⟨h.b1.set5 v,box_far h.b2 (by omega),h.low.setCell (p:=⟨w.heap.size,5,none⟩) (Nat.le_refl _) _⟩
theorem PresSt.set6 (h:PresSt w y0 y1 y2 y3 y4 y5 y6 y7 y8 W) (v:Value):PresSt w y0 y1 y2 y3 y4 y5 v y7 y8 (W.setCell ⟨w.heap.size,6,none⟩ v) :=
 ⟨h.b1.set6 v,box_far h.b2 (by omega),h.low.setCell (p:=⟨w.heap.size,6,none⟩) (Nat.le_refl _) _⟩
theorem PresSt.set7 (h:PresSt w y0 y1 y2 y3 y4 y5 y6 y7 y8 W) (v:Value):PresSt w y0 y1 y2 y3 y4 y5 y6 v y8 (W.setCell ⟨w.heap.size,7,none⟩ v) :=
 ⟨h.b1.set7 v,box_far h.b2 (by omega),h.low.setCell (p:=⟨w.heap.size,7,none⟩) (Nat.le_refl _) _⟩
theorem PresSt.set8 (h:PresSt w y0 y1 y2 y3 y4 y5 y6 y7 y8 W) (v:Value):PresSt w y0 y1 y2 y3 y4 y5 y6 y7 v (W.setCell ⟨w.heap.size,8,none⟩ v) :=
 ⟨h.b1.set8 v,box_far h.b2 (by omega),h.low.setCell (p:=⟨w.heap.size,8,none⟩) (Nat.le_refl _) _⟩
end
theorem pres_new (w:World) (x0 x1 x2 x3 x4 x5 x6 x7 x8:Value):PresSt w x0 x1 x2 x3 x4 x5 x6 x7 x8 ((w.alloc (.cells #[x0,x1,x2,x3,x4,x5,x6,x7,x8] 29)).alloc (.cells #[.int .i64 0,.int .i64 0,.slice none 0 0,.int .u32 0,.int .u32 0,.int .u32 0,.int .u32 0,.int .u32 0,.slice none 0 0] 29)):=by
 obtain ⟨h1,h2,h3⟩:=two_boxes w 29 x0 x1 x2 x3 x4 x5 x6 x7 x8 (.int .i64 0) (.int .i64 0) (.slice none 0 0) (.int .u32 0) (.int .u32 0) (.int .u32 0) (.int .u32 0) (.int .u32 0) (.slice none 0 0)
 exact ⟨h1,h2,h3⟩
theorem pres8 (h o:Int) (Ap Ac:Option Addr) (np cp nc cc hp md pr ag ai:Nat) (w:World)
  (o1:Int) (Ap1 Ac1:Option Addr) (np1 cp1 nc1 cc1 hp1 md1 pr1 ag1 ai1:Nat)
  (E1:Hid (o1=if hasB h 1 then o else 0)) (E2:Hid (Value.slice Ap1 np1 cp1=if hasB h 2 then .slice Ap np cp else .slice none 0 0))
  (E3:Hid (hp1=if hasB h 3 then hp else 0)) (E4:Hid (md1=if hasB h 4 then md else 0)) (E5:Hid (pr1=if hasB h 5 then pr else 0)) (E6:Hid (ag1=if hasB h 7 then ag else 0)) (E7:Hid (ai1=if hasB h 7 then ai else 0))
  (E8:Hid (Value.slice Ac1 nc1 cc1=if hasB h 8 then .slice Ac nc cc else .slice none 0 0)) :
  Calls Tryz.prog 113 #[.agg #[.int .i64 h,.int .i64 o,.slice Ap np cp,.int .u32 hp,.int .u32 md,.int .u32 pr,.int .u32 ag,.int .u32 ai,.slice Ac nc cc]] w (Tells (.agg #[.int .i64 (hasUpto h 8:Nat),.int .i64 o1,.slice Ap1 np1 cp1,.int .u32 hp1,.int .u32 md1,.int .u32 pr1,.int .u32 ag1,.int .u32 ai1,.slice Ac1 nc1 cc1]) w):=by
 have CH:=hid (fun (k:Int) (hk:1≤k) (hk8:k≤8) (x1 x2 x3 x4 x5 x6 x7 x8:Value) (W:World)=>show Calls Tryz.prog 116 #[.agg #[.int .i64 (hasUpto h 8:Nat),x1,x2,x3,x4,x5,x6,x7,x8],.int .i64 k] W (Tells (.bool (hasB h k)) W) from by
  obtain ⟨m,rfl⟩:=Int.eq_ofNat_of_zero_le (show 0≤k by omega)
  have q:=has_any (hasUpto h 8:Nat) m x1 x2 x3 x4 x5 x6 x7 x8 W (by omega)
  rw [hasB_upto h m (by omega) (by omega)] at q
  exact q)
 have S0:=hid (pres_new w (.int .i64 h) (.int .i64 o) (.slice Ap np cp) (.int .u32 hp) (.int .u32 md) (.int .u32 pr) (.int .u32 ag) (.int .u32 ai) (.slice Ac nc cc))
 obtain ⟨c0,c1,c2,c3,c4,c5,c6,c7,c8⟩:=S0.out.b1.cells
 have ff:=S0.out.b1.free
 have HA:=and_510 h
 have ST:=hid (pres_new w (.int .i64 (hasUpto h 8:Nat)) (.int .i64 o) (.slice Ap np cp) (.int .u32 hp) (.int .u32 md) (.int .u32 pr) (.int .u32 ag) (.int .u32 ai) (.slice Ac nc cc))
 clear S0
 go_enter Tryz.func113,Tryz.ntmps113
 go_upto_if 9 with (go_at_call 116;refine (CH.out 1 (by decide) (by decide) _ _ _ _ _ _ _ _ _).mono ?_;rintro e x ⟨rfl,hx⟩;replace ST:=hid (ST.out.below hx);clear c0 c1 c2 c3 c4 c5 c6 c7 c8;obtain ⟨c0,c1,c2,c3,c4,c5,c6,c7,c8⟩:=ST.out.b1.cells;have ff:=ST.out.b1.free;clear hx)
 go_cut [] from 7 (fun wx=>Hid (PresSt w (.int .i64 (hasUpto h 8:Nat)) (.int .i64 o1) (.slice Ap np cp) (.int .u32 hp) (.int .u32 md) (.int .u32 pr) (.int .u32 ag) (.int .u32 ai) (.slice Ac nc cc) wx))
 case first =>
  cases hb:hasB h 1 with
  | false =>
   go_wp2
   go_meet
   rw [E1.out,if_neg (show ¬ hasB h 1=true by rw [hb];decide)]
   exact hid (ST.out.set1 _)
  | true =>
   go_wp2
   go_meet
   rw [E1.out,if_pos hb]
   exact ST
 case rest =>
 clear c0 c1 c2 c3 c4 c5 c6 c7 c8 ST
 have ST:=hcut
 clear hcut
 obtain ⟨c0,c1,c2,c3,c4,c5,c6,c7,c8⟩:=ST.out.b1.cells
 go_upto_if 13 with (go_at_call 116;refine (CH.out 2 (by decide) (by decide) _ _ _ _ _ _ _ _ _).mono ?_;rintro e x ⟨rfl,hx⟩;replace ST:=hid (ST.out.below hx);clear c0 c1 c2 c3 c4 c5 c6 c7 c8;obtain ⟨c0,c1,c2,c3,c4,c5,c6,c7,c8⟩:=ST.out.b1.cells;have ff:=ST.out.b1.free;clear hx)
 go_cut [] from 11 (fun wx=>Hid (PresSt w (.int .i64 (hasUpto h 8:Nat)) (.int .i64 o1) (.slice Ap1 np1 cp1) (.int .u32 hp) (.int .u32 md) (.int .u32 pr) (.int .u32 ag) (.int .u32 ai) (.slice Ac nc cc) wx))
 case first =>
  cases hb:hasB h 2 with
  | false =>
   go_wp2
   go_meet
   rw [E2.out,if_neg (show ¬ hasB h 2=true by rw [hb];decide)]
   exact hid (ST.out.set2 _)
  | true =>
   go_wp2
   go_meet
   rw [E2.out,if_pos hb]
   exact ST
 case rest =>
 clear c0 c1 c2 c3 c4 c5 c6 c7 c8 ST
 have ST:=hcut
 clear hcut
 obtain ⟨c0,c1,c2,c3,c4,c5,c6,c7,c8⟩:=ST.out.b1.cells
 go_upto_if 17 with (go_at_call 116;refine (CH.out 3 (by decide) (by decide) _ _ _ _ _ _ _ _ _).mono ?_;rintro e x ⟨rfl,hx⟩;replace ST:=hid (ST.out.below hx);clear c0 c1 c2 c3 c4 c5 c6 c7 c8;obtain ⟨c0,c1,c2,c3,c4,c5,c6,c7,c8⟩:=ST.out.b1.cells;have ff:=ST.out.b1.free;clear hx)
 go_cut [] from 15 (fun wx=>Hid (PresSt w (.int .i64 (hasUpto h 8:Nat)) (.int .i64 o1) (.slice Ap1 np1 cp1) (.int .u32 hp1) (.int .u32 md) (.int .u32 pr) (.int .u32 ag) (.int .u32 ai) (.slice Ac nc cc) wx))
 case first =>
  cases hb:hasB h 3 with
  | false =>
   go_wp2
   go_meet
   rw [E3.out,if_neg (show ¬ hasB h 3=true by rw [hb];decide)]
   exact hid (ST.out.set3 _)
  | true =>
   go_wp2
   go_meet
   rw [E3.out,if_pos hb]
   exact ST
 case rest =>
 clear c0 c1 c2 c3 c4 c5 c6 c7 c8 ST
 have ST:=hcut
 clear hcut
 obtain ⟨c0,c1,c2,c3,c4,c5,c6,c7,c8⟩:=ST.out.b1.cells
 go_upto_if 21 with (go_at_call 116;refine (CH.out 4 (by decide) (by decide) _ _ _ _ _ _ _ _ _).mono ?_;rintro e x ⟨rfl,hx⟩;replace ST:=hid (ST.out.below hx);clear c0 c1 c2 c3 c4 c5 c6 c7 c8;obtain ⟨c0,c1,c2,c3,c4,c5,c6,c7,c8⟩:=ST.out.b1.cells;have ff:=ST.out.b1.free;clear hx)
 go_cut [] from 19 (fun wx=>Hid (PresSt w (.int .i64 (hasUpto h 8:Nat)) (.int .i64 o1) (.slice Ap1 np1 cp1) (.int .u32 hp1) (.int .u32 md1) (.int .u32 pr) (.int .u32 ag) (.int .u32 ai) (.slice Ac nc cc) wx))
 case first =>
  cases hb:hasB h 4 with
  | false =>
   go_wp2
   go_meet
   rw [E4.out,if_neg (show ¬ hasB h 4=true by rw [hb];decide)]
   exact hid (ST.out.set4 _)
  | true =>
   go_wp2
   go_meet
   rw [E4.out,if_pos hb]
   exact ST
 case rest =>
 clear c0 c1 c2 c3 c4 c5 c6 c7 c8 ST
 have ST:=hcut
 clear hcut
 obtain ⟨c0,c1,c2,c3,c4,c5,c6,c7,c8⟩:=ST.out.b1.cells
 go_upto_if 25 with (go_at_call 116;refine (CH.out 5 (by decide) (by decide) _ _ _ _ _ _ _ _ _).mono ?_;rintro e x ⟨rfl,hx⟩;replace ST:=hid (ST.out.below hx);clear c0 c1 c2 c3 c4 c5 c6 c7 c8;obtain ⟨c0,c1,c2,c3,c4,c5,c6,c7,c8⟩:=ST.out.b1.cells;have ff:=ST.out.b1.free;clear hx)
 go_cut [] from 23 (fun wx=>Hid (PresSt w (.int .i64 (hasUpto h 8:Nat)) (.int .i64 o1) (.slice Ap1 np1 cp1) (.int .u32 hp1) (.int .u32 md1) (.int .u32 pr1) (.int .u32 ag) (.int .u32 ai) (.slice Ac nc cc) wx))
 case first =>
  cases hb:hasB h 5 with
  | false =>
   go_wp2
   go_meet
   rw [E5.out,if_neg (show ¬ hasB h 5=true by rw [hb];decide)]
   exact hid (ST.out.set5 _)
  | true =>
   go_wp2
   go_meet
   rw [E5.out,if_pos hb]
   exact ST
 case rest =>
 clear c0 c1 c2 c3 c4 c5 c6 c7 c8 ST
 have ST:=hcut
 clear hcut
 obtain ⟨c0,c1,c2,c3,c4,c5,c6,c7,c8⟩:=ST.out.b1.cells
 go_upto_if 29 with (go_at_call 116;refine (CH.out 7 (by decide) (by decide) _ _ _ _ _ _ _ _ _).mono ?_;rintro e x ⟨rfl,hx⟩;replace ST:=hid (ST.out.below hx);clear c0 c1 c2 c3 c4 c5 c6 c7 c8;obtain ⟨c0,c1,c2,c3,c4,c5,c6,c7,c8⟩:=ST.out.b1.cells;have ff:=ST.out.b1.free;clear hx)
 go_cut [] from 27 (fun wx=>Hid (PresSt w (.int .i64 (hasUpto h 8:Nat)) (.int .i64 o1) (.slice Ap1 np1 cp1) (.int .u32 hp1) (.int .u32 md1) (.int .u32 pr1) (.int .u32 ag1) (.int .u32 ai1) (.slice Ac nc cc) wx))
 case first =>
  cases hb:hasB h 7 with
  | false =>
   go_wp2
   go_meet
   rw [E6.out,if_neg (show ¬ hasB h 7=true by rw [hb];decide),E7.out,if_neg (show ¬ hasB h 7=true by rw [hb];decide)]
   exact hid ((ST.out.set6 _).set7 _)
  | true =>
   go_wp2
   go_meet
   rw [E6.out,if_pos hb,E7.out,if_pos hb]
   exact ST
 case rest =>
 clear c0 c1 c2 c3 c4 c5 c6 c7 c8 ST
 have ST:=hcut
 clear hcut
 obtain ⟨c0,c1,c2,c3,c4,c5,c6,c7,c8⟩:=ST.out.b1.cells
 go_upto_if 34 with (go_at_call 116;refine (CH.out 8 (by decide) (by decide) _ _ _ _ _ _ _ _ _).mono ?_;rintro e x ⟨rfl,hx⟩;replace ST:=hid (ST.out.below hx);clear c0 c1 c2 c3 c4 c5 c6 c7 c8;obtain ⟨c0,c1,c2,c3,c4,c5,c6,c7,c8⟩:=ST.out.b1.cells;have ff:=ST.out.b1.free;clear hx)
 go_cut [] from 32 (fun wx=>Hid (PresSt w (.int .i64 (hasUpto h 8:Nat)) (.int .i64 o1) (.slice Ap1 np1 cp1) (.int .u32 hp1) (.int .u32 md1) (.int .u32 pr1) (.int .u32 ag1) (.int .u32 ai1) (.slice Ac1 nc1 cc1) wx))
 case first =>
  cases hb:hasB h 8 with
  | false =>
   go_wp2
   go_meet
   rw [E8.out,if_neg (show ¬ hasB h 8=true by rw [hb];decide)]
   exact hid (ST.out.set8 _)
  | true =>
   go_wp2
   go_meet
   rw [E8.out,if_pos hb]
   exact ST
 case rest =>
 clear c0 c1 c2 c3 c4 c5 c6 c7 c8 ST
 have ST:=hcut
 clear hcut
 obtain ⟨c0,c1,c2,c3,c4,c5,c6,c7,c8⟩:=ST.out.b1.cells
 obtain ⟨g0,g1,g2,g3,g4,g5,g6,g7,g8⟩:=ST.out.b2.cells
 have fg:=ST.out.b2.free
 have B9:=(((((((((ST.out.b2.set0 (.int .i64 (hasUpto h 8:Nat))).set1 (.int .i64 o1)).set2 (.slice Ap1 np1 cp1)).set3 (.int .u32 hp1)).set4 (.int .u32 md1)).set5 (.int .u32 pr1)).set6 (.int .u32 ag1)).set7 (.int .u32 ai1)).set8 (.slice Ac1 nc1 cc1))
 obtain ⟨r0,r1,r2,r3,r4,r5,r6,r7,r8⟩:=B9.cells
 go_wp2
 (try simp only [Exit.inBlock,Exit.then])
 refine bodyPost_ret (v:=.agg #[.int .i64 (hasUpto h 8:Nat),.int .i64 o1,.slice Ap1 np1 cp1,.int .u32 hp1,.int .u32 md1,.int .u32 pr1,.int .u32 ag1,.int .u32 ai1,.slice Ac1 nc1 cc1]) (by simp [results,Tryz.results113,go_sem,r0,r1,r2,r3,r4,r5,r6,r7,r8]) rfl ?_
 exact ⟨rfl,nine_low ST.out.low (w.heap.size+1) (by omega) (.int .i64 (hasUpto h 8:Nat)) (.int .i64 o1) (.slice Ap1 np1 cp1) (.int .u32 hp1) (.int .u32 md1) (.int .u32 pr1) (.int .u32 ag1) (.int .u32 ai1) (.slice Ac1 nc1 cc1)⟩
def presA (a:At):At:=⟨(hasUpto a.has 8:Nat),if hasB a.has 1 then a.origin else 0,if hasB a.has 2 then a.path else [],if hasB a.has 3 then a.hop else 0,if hasB a.has 4 then a.med else 0,if hasB a.has 5 then a.pref else 0,if hasB a.has 7 then a.aas else 0,if hasB a.has 7 then a.aid else 0,if hasB a.has 8 then a.comms else []⟩
theorem presA_ok {a:At} (h:a.ok):(presA a).ok:=by
 obtain ⟨h0,h1,h2,h3,h4,h5,h6⟩:=h
 unfold presA At.ok
 dsimp only
 have hu:=hasUpto_le a.has 8
 refine ⟨?_,?_,?_,?_,?_,?_,?_⟩
 ·simp [Lit.wf,IntKind.min,IntKind.max,IntKind.signed,IntKind.bits];omega
 ·split
  ·exact h1
  ·decide
 all_goals (split <;> first | assumption | omega)
theorem present_exact (v:Value) (a:At) (w:World) (hv:Attrs w v a):∃ v',Attrs w v' (presA a)∧∀ W,Below w.heap.size w W→Calls Tryz.prog 113 #[v] W (Tells v' W):=by
 obtain ⟨hok,vp,vc,rfl,hP,hC⟩:=hv
 obtain ⟨Ap,cp,rfl,-,-⟩:=hP.form
 obtain ⟨Ac,cc,rfl,-,-,-,-⟩:=hC.open_
 obtain ⟨Ap1,np1,cp1,e1⟩:∃ A n c,Value.slice A n c=if hasB a.has 2 then .slice Ap a.path.length cp else .slice none 0 0:=by split <;> exact ⟨_,_,_,rfl⟩
 obtain ⟨Ac1,nc1,cc1,e2⟩:∃ A n c,Value.slice A n c=if hasB a.has 8 then .slice Ac a.comms.length cc else .slice none 0 0:=by split <;> exact ⟨_,_,_,rfl⟩
 refine ⟨_,⟨presA_ok hok,.slice Ap1 np1 cp1,.slice Ac1 nc1 cc1,rfl,?_,?_⟩,fun W _=>pres8 a.has a.origin Ap Ac a.path.length cp a.comms.length cc a.hop a.med a.pref a.aas a.aid W _ Ap1 Ac1 np1 cp1 nc1 cc1 _ _ _ _ _ (hid rfl) (hid e1) (hid rfl) (hid rfl) (hid rfl) (hid rfl) (hid rfl) (hid e2)⟩
 ·rw [e1]
  unfold presA
  dsimp only
  split
  ·exact hP
  ·exact ⟨[],Row.nil _ 2,Nums32.nil _⟩
 ·rw [e2]
  unfold presA
  dsimp only
  split
  ·exact hC
  ·exact U32s.nil _
end Att
namespace Att
open Go.RowKit Mem Segm Oct
theorem fours_take {m:List Nat} {j n:Nat} (h:m[j]?=some n):fours (m.take (j+1))=fours (m.take j) ++ big n 4:=by
 rw [List.take_add_one,h,Option.toList_some,fours_append]
 simp [fours]
theorem putAll_any (v x:Value) (base:Nat) (l m:List Nat) (F0:Nat→Prop) (s:World) (hW:Wr s base v l F0) (hx:∀ W,Only F0 s W→U32s W x m) (hlen:l.length+4*m.length≤800000) (hbase:base≤s.heap.size) :
  Calls Tryz.prog 167 #[v,x] s (fun e w'=>e=.returned (.tuple #[])∧∃ F',Wst base v F0 s (l ++ fours m) F' w'):=by
 have hx0:=hx s (Only.refl _ _)
 obtain ⟨A,c,rfl,hlc,hc,-,-⟩:=hx0.open_
 have HX:=hid hx
 have S0:=hid (Wst.new hW)
 have HB:=hid hbase
 have CU:=hid (fun (n:Nat) (L:List Nat) (F:Nat→Prop) (W:World) (h:Wr W base v L F) (hl:L.length≤900000) (hb:base≤W.heap.size)=>w32_put v base L F n W h hl hb)
 clear hx hx0 hW
 go_enter Tryz.func167,Tryz.ntmps167
 go_wp2
 go_loopw [8] (fun v8 wx=>∃ (j:Nat) (F:Nat→Prop),j≤m.length∧v8=.int .i64 j∧Hid (Wst base v F0 s (l ++ fours (m.take j)) F wx)) (fun v8 _=>m.length - (intOf v8).toNat)
 case atStart=>exact ⟨0,F0,Nat.zero_le _,rfl,hid (by rw [List.take_zero];show Wst base v F0 s (l ++ []) F0 s;rw [List.append_nil];exact S0.out)⟩
 case round =>
  obtain ⟨j,F,hj,rfl,ST⟩:=hrel
  by_cases hlt:j<m.length
  ·obtain ⟨b,off,n,rfl,hbl,hn,hn32,hcell⟩:=(HX.out _ ST.out.on).at_ hlt
   have z0:(0:Int)≤(j:Int):=by omega
   have z1:(j:Int)<(m.length:Int):=by omega
   have HT:=hid (fours_take hn)
   have CN:=hid (CU.out n _ F wr ST.out.wr (by rw [List.length_append,fours_len,List.length_take];omega) (Nat.le_trans HB.out ST.out.size))
   clear hn
   go_wp2_with (go_at_call 104;refine (CN.out).mono ?_;intro e w1 hA;obtain ⟨F2,rfl,hS⟩:=ST.out.add hA;have S2:=hid hS;clear hA hS)
   go_roundw
   case rel =>
    refine ⟨j+1,F2,hlt,by go_num,hid ?_⟩
    rw [HT.out,← put4,← List.append_assoc]
    exact S2.out
   case measure=>simp [intOf];omega
  ·obtain rfl:j=m.length:=by omega
   have z1:decide ((m.length:Int)<(m.length:Int))=false:=by simp
   rw [List.take_length] at ST
   go_wp2
   go_end0
   exact ⟨rfl,F,ST.out⟩
end Att
namespace Att
open Go.RowKit Mem Segm Oct
structure ValSt (w0:World) (P:Value) (B:Nat) (x0 x1 x2 x3 x4 x5 x6 x7 x8:Value) (l:List Nat) (F:Nat→Prop) (W:World):Prop where
 wr:Wr W w0.heap.size P l F
 nb:¬ F B
 b9:Box9 W B 29 x0 x1 x2 x3 x4 x5 x6 x7 x8
 low:Below w0.heap.size w0 W
section
variable {w0 W W2:World} {P v:Value} {B:Nat} {x0 x1 x2 x3 x4 x5 x6 x7 x8:Value} {l l2:List Nat} {F F2:Nat→Prop} {e:Ending}
theorem ValSt.below (h:ValSt w0 P B x0 x1 x2 x3 x4 x5 x6 x7 x8 l F W) (hb:Below W.heap.size W W2):ValSt w0 P B x0 x1 x2 x3 x4 x5 x6 x7 x8 l F W2 :=
 ⟨h.wr.below hb,h.nb,h.b9.keep hb,h.low.trans (hb.mono h.low.size)⟩
theorem ValSt.wst (h:ValSt w0 P B x0 x1 x2 x3 x4 x5 x6 x7 x8 l F W) (k:Wst w0.heap.size P F W l2 F2 W2):ValSt w0 P B x0 x1 x2 x3 x4 x5 x6 x7 x8 l2 F2 W2:=by
 refine ⟨k.wr,fun hf=>?_,⟨(k.on.block B h.b9.lt h.nb).trans h.b9.blk⟩,h.low.trans (k.on.below (fun j hj=>(h.wr.lt j hj).1) h.low.size)⟩
 rcases k.gr B hf with q | q
 ·exact h.nb q
 ·have:=h.b9.lt;omega
theorem ValSt.add (h:ValSt w0 P B x0 x1 x2 x3 x4 x5 x6 x7 x8 l F W) (k:AddF w0.heap.size P v l2 F W e W2):∃ F2,e=.returned v∧ValSt w0 P B x0 x1 x2 x3 x4 x5 x6 x7 x8 l2 F2 W2:=by
 obtain ⟨F2,h1,h2⟩:=(Wst.new h.wr).add k
 exact ⟨F2,h1,h.wst h2⟩
end
theorem val_start (w:World) (x0 x1 x2 x3 x4 x5 x6 x7 x8:Value):ValSt w (.pointer (some ⟨w.heap.size+1,0,none⟩)) w.heap.size x0 x1 x2 x3 x4 x5 x6 x7 x8 [] (fun k=>k=w.heap.size+1) ((w.alloc (.cells #[x0,x1,x2,x3,x4,x5,x6,x7,x8] 29)).alloc (.cells #[.slice none 0 0] 97)):=by
 have h1:=Box9.new w 29 x0 x1 x2 x3 x4 x5 x6 x7 x8
 have b1:Below w.heap.size w (w.alloc (.cells #[x0,x1,x2,x3,x4,x5,x6,x7,x8] 29)):=(Below.refl _ w).alloc (Nat.le_refl _) _
 have e1:(w.alloc (.cells #[x0,x1,x2,x3,x4,x5,x6,x7,x8] 29)).heap.size=w.heap.size+1:=by simp
 have h2:=wr_zero (w.alloc (.cells #[x0,x1,x2,x3,x4,x5,x6,x7,x8] 29)) (base:=w.heap.size) b1.size
 rw [e1] at h2
 exact ⟨h2,by show ¬ _=_;omega,h1.keep ((Below.refl _ _).alloc (Nat.le_refl _) _),b1.alloc b1.size _⟩
theorem pval1 (h o:Int) (vp vc:Value) (hp md pr ag ai:Nat) (w:World):Calls Tryz.prog 144 #[.agg #[.int .i64 h,.int .i64 o,vp,.int .u32 hp,.int .u32 md,.int .u32 pr,.int .u32 ag,.int .u32 ai,vc],.int .i64 1] w (Gives8 ([lo8 o]) w):=by
 have ST:=hid (val_start w (.int .i64 h) (.int .i64 o) (vp) (.int .u32 hp) (.int .u32 md) (.int .u32 pr) (.int .u32 ag) (.int .u32 ai) (vc))
 obtain ⟨c0,c1,c2,c3,c4,c5,c6,c7,c8⟩:=ST.out.b9.cells
 go_enter Tryz.func144,Tryz.ntmps144
 go_wp2_with (first
  | (go_at_call 62;refine (w8_put _ _ [] _ o _ ST.out.wr (by simp) ST.out.low.size).mono ?_;intro e x hA;obtain ⟨F2,rfl,hS⟩:=ST.out.add hA;replace ST:=hid hS;clear c0 c1 c2 c3 c4 c5 c6 c7 c8;obtain ⟨c0,c1,c2,c3,c4,c5,c6,c7,c8⟩:=ST.out.b9.cells;clear hA hS)
  | (go_at_call 63;refine (wbytes_any _ _ _ _ _ ST.out.wr (by simp)).mono ?_;rintro e y ⟨A1,c1,rfl,ho,hy⟩;have HO:=hid (own_base ho ST.out.low.size);have HY:=hid (ST.out.low.trans (hy.mono ST.out.low.size));clear ho hy))
 go_ret
 exact ⟨A1,c1,rfl,HO.out,HY.out⟩
theorem pval345 (k:Int) (x:Nat) (h o:Int) (vp vc:Value) (hp md pr ag ai:Nat) (w:World) (hk:k=3∧x=hp∨k=4∧x=md∨k=5∧x=pr):Calls Tryz.prog 144 #[.agg #[.int .i64 h,.int .i64 o,vp,.int .u32 hp,.int .u32 md,.int .u32 pr,.int .u32 ag,.int .u32 ai,vc],.int .i64 k] w (Gives8 (big x 4) w):=by
 have ST:=hid (val_start w (.int .i64 h) (.int .i64 o) (vp) (.int .u32 hp) (.int .u32 md) (.int .u32 pr) (.int .u32 ag) (.int .u32 ai) (vc))
 obtain ⟨c0,c1,c2,c3,c4,c5,c6,c7,c8⟩:=ST.out.b9.cells
 have HE:=hid (put4 x)
 rw [← HE.out]
 rcases hk with ⟨rfl,rfl⟩ | ⟨rfl,rfl⟩ | ⟨rfl,rfl⟩
 all_goals
  go_enter Tryz.func144,Tryz.ntmps144
  go_wp2_with (first
   | (go_at_call 104;refine (w32_put _ _ [] _ _ _ ST.out.wr (by simp) ST.out.low.size).mono ?_;intro e x hA;obtain ⟨F2,rfl,hS⟩:=ST.out.add hA;replace ST:=hid hS;clear c0 c1 c2 c3 c4 c5 c6 c7 c8;obtain ⟨c0,c1,c2,c3,c4,c5,c6,c7,c8⟩:=ST.out.b9.cells;clear hA hS)
   | (go_at_call 63;refine (wbytes_any _ _ _ _ _ ST.out.wr (by simp)).mono ?_;rintro e y ⟨A1,c1,rfl,ho,hy⟩;have HO:=hid (own_base ho ST.out.low.size);have HY:=hid (ST.out.low.trans (hy.mono ST.out.low.size));clear ho hy))
  go_ret
  exact ⟨A1,c1,rfl,HO.out,HY.out⟩
theorem pval3 (h o:Int) (vp vc:Value) (hp md pr ag ai:Nat) (w:World):Calls Tryz.prog 144 #[.agg #[.int .i64 h,.int .i64 o,vp,.int .u32 hp,.int .u32 md,.int .u32 pr,.int .u32 ag,.int .u32 ai,vc],.int .i64 3] w (Gives8 (big hp 4) w) :=
 pval345 3 hp h o vp vc hp md pr ag ai w (.inl ⟨rfl,rfl⟩)
theorem pval4 (h o:Int) (vp vc:Value) (hp md pr ag ai:Nat) (w:World):Calls Tryz.prog 144 #[.agg #[.int .i64 h,.int .i64 o,vp,.int .u32 hp,.int .u32 md,.int .u32 pr,.int .u32 ag,.int .u32 ai,vc],.int .i64 4] w (Gives8 (big md 4) w) :=
 pval345 4 md h o vp vc hp md pr ag ai w (.inr (.inl ⟨rfl,rfl⟩))
theorem pval5 (h o:Int) (vp vc:Value) (hp md pr ag ai:Nat) (w:World):Calls Tryz.prog 144 #[.agg #[.int .i64 h,.int .i64 o,vp,.int .u32 hp,.int .u32 md,.int .u32 pr,.int .u32 ag,.int .u32 ai,vc],.int .i64 5] w (Gives8 (big pr 4) w) :=
 pval345 5 pr h o vp vc hp md pr ag ai w (.inr (.inr ⟨rfl,rfl⟩))
theorem pval6 (h o:Int) (vp vc:Value) (hp md pr ag ai:Nat) (w:World):Calls Tryz.prog 144 #[.agg #[.int .i64 h,.int .i64 o,vp,.int .u32 hp,.int .u32 md,.int .u32 pr,.int .u32 ag,.int .u32 ai,vc],.int .i64 6] w (Gives8 ([]) w):=by
 have ST:=hid (val_start w (.int .i64 h) (.int .i64 o) (vp) (.int .u32 hp) (.int .u32 md) (.int .u32 pr) (.int .u32 ag) (.int .u32 ai) (vc))
 obtain ⟨c0,c1,c2,c3,c4,c5,c6,c7,c8⟩:=ST.out.b9.cells
 go_enter Tryz.func144,Tryz.ntmps144
 go_wp2_with (first
  | (go_at_call 63;refine (wbytes_any _ _ _ _ _ ST.out.wr (by simp)).mono ?_;rintro e y ⟨A1,c1,rfl,ho,hy⟩;have HO:=hid (own_base ho ST.out.low.size);have HY:=hid (ST.out.low.trans (hy.mono ST.out.low.size));clear ho hy))
 go_ret
 exact ⟨A1,c1,rfl,HO.out,HY.out⟩
theorem pval7 (h o:Int) (vp vc:Value) (hp md pr ag ai:Nat) (w:World):Calls Tryz.prog 144 #[.agg #[.int .i64 h,.int .i64 o,vp,.int .u32 hp,.int .u32 md,.int .u32 pr,.int .u32 ag,.int .u32 ai,vc],.int .i64 7] w (Gives8 (big ag 4 ++ big ai 4) w):=by
 have ST:=hid (val_start w (.int .i64 h) (.int .i64 o) (vp) (.int .u32 hp) (.int .u32 md) (.int .u32 pr) (.int .u32 ag) (.int .u32 ai) (vc))
 obtain ⟨c0,c1,c2,c3,c4,c5,c6,c7,c8⟩:=ST.out.b9.cells
 have HE:=hid (put4 ag)
 have HF:=hid (put4 ai)
 rw [← HE.out,← HF.out]
 go_enter Tryz.func144,Tryz.ntmps144
 go_wp2
 have D0:=hid (ST.out.below (Below.refl _ _).drew)
 clear c0 c1 c2 c3 c4 c5 c6 c7 c8
 obtain ⟨-,-,-,-,-,-,c6,c7,-⟩:=D0.out.b9.cells
 have CA:=hid (fun W (F:Nat→Prop) (h:ValSt w (.pointer (some ⟨w.heap.size+1,0,none⟩)) w.heap.size (.int .i64 h) (.int .i64 o) (vp) (.int .u32 hp) (.int .u32 md) (.int .u32 pr) (.int .u32 ag) (.int .u32 ai) (vc) [] F W)=>w32_put _ _ [] F ag W h.wr (by simp) h.low.size)
 have CB:=hid (fun W (F:Nat→Prop) (l:List Nat) (hl:l.length≤100) (h:ValSt w (.pointer (some ⟨w.heap.size+1,0,none⟩)) w.heap.size (.int .i64 h) (.int .i64 o) (vp) (.int .u32 hp) (.int .u32 md) (.int .u32 pr) (.int .u32 ag) (.int .u32 ai) (vc) l F W)=>w32_put _ _ l F ai W h.wr (by omega) h.low.size)
 go_region_held3 (fun w'=>w'.cell? ⟨w.heap.size,6,none⟩=some (.int .u32 ag)∧w'.cell? ⟨w.heap.size,7,none⟩=some (.int .u32 ai)) (exact ⟨by assumption,by assumption⟩) (first
  | (have hq:=D0.out;go_at_call 104;refine (CA.out _ _ hq).mono ?_;intro e x hA;obtain ⟨F2,rfl,hS⟩:=hq.add hA;have ST1:=hid hS;clear hA hS c6 c7 hq D0;obtain ⟨-,-,-,-,-,-,c6,c7,-⟩:=ST1.out.b9.cells)
  | (have hq:=ST1.out;go_at_call 104;refine (CB.out _ _ _ (by simp) hq).mono ?_;intro e x hA;obtain ⟨F3,rfl,hS⟩:=hq.add hA;have ST2:=hid hS;clear hA hS c6 c7 hq ST1;obtain ⟨-,-,-,-,-,-,c6,c7,-⟩:=ST2.out.b9.cells))
 replace ST:=ST2
 go_wp2_with (first
  | (go_at_call 63;refine (wbytes_any _ _ _ _ _ ST.out.wr (by simp)).mono ?_;rintro e y ⟨A1,c1,rfl,ho,hy⟩;have HO:=hid (own_base ho ST.out.low.size);have HY:=hid (ST.out.low.trans (hy.mono ST.out.low.size));clear ho hy))
 go_ret
 exact ⟨A1,c1,rfl,HO.out,HY.out⟩
theorem pval8 (h o:Int) (vp vc:Value) (hp md pr ag ai:Nat) (w:World) (cm:List Nat) (hC:U32s w vc cm) (hl:cm.length≤100000):Calls Tryz.prog 144 #[.agg #[.int .i64 h,.int .i64 o,vp,.int .u32 hp,.int .u32 md,.int .u32 pr,.int .u32 ag,.int .u32 ai,vc],.int .i64 8] w (Gives8 (fours cm) w):=by
 have ST:=hid (val_start w (.int .i64 h) (.int .i64 o) (vp) (.int .u32 hp) (.int .u32 md) (.int .u32 pr) (.int .u32 ag) (.int .u32 ai) (vc))
 obtain ⟨c0,c1,c2,c3,c4,c5,c6,c7,c8⟩:=ST.out.b9.cells
 have HC:=hid hC
 have HL:=hid hl
 clear hC hl
 go_enter Tryz.func144,Tryz.ntmps144
 go_wp2_with (first
  | (go_at_call 167;refine (putAll_any _ _ _ [] cm _ _ ST.out.wr (fun W' ho=>HC.out.keep (ST.out.low.trans (ho.below (fun k hk=>(ST.out.wr.lt k hk).1) ST.out.low.size))) (by have:=HL.out;simp;omega) ST.out.low.size).mono ?_;rintro e x ⟨rfl,F2,hS⟩;replace ST:=hid (ST.out.wst hS);clear hS c0 c1 c2 c3 c4 c5 c6 c7 c8)
  | (go_at_call 63;refine (wbytes_any _ _ _ _ _ ST.out.wr (by have:=HL.out;rw [List.nil_append,fours_len];omega)).mono ?_;rintro e y ⟨A1,c1,rfl,ho,hy⟩;have HO:=hid (own_base ho ST.out.low.size);have HY:=hid (ST.out.low.trans (hy.mono ST.out.low.size));clear ho hy))
 go_ret
 exact ⟨A1,c1,rfl,HO.out,HY.out⟩
structure SegSt (w0:World) (P:Value) (B:Nat) (x0 x1 x2 x3 x4 x5 x6 x7 x8:Value) (C:Nat) (k x:Value) (l:List Nat) (F:Nat→Prop) (W:World):Prop where
 v:ValSt w0 P B x0 x1 x2 x3 x4 x5 x6 x7 x8 l F W
 n2:¬ F C
 blk:W.heap[C]?=some (.cells #[k,x] 108)
section
variable {w0 W W2:World} {P v:Value} {B C:Nat} {x0 x1 x2 x3 x4 x5 x6 x7 x8 k x:Value} {l l2:List Nat} {F F2:Nat→Prop} {e:Ending}
theorem SegSt.lt (h:SegSt w0 P B x0 x1 x2 x3 x4 x5 x6 x7 x8 C k x l F W):C<W.heap.size:=(Array.getElem?_eq_some_iff.1 h.blk).1
theorem SegSt.below (h:SegSt w0 P B x0 x1 x2 x3 x4 x5 x6 x7 x8 C k x l F W) (hb:Below W.heap.size W W2):SegSt w0 P B x0 x1 x2 x3 x4 x5 x6 x7 x8 C k x l F W2 :=
 ⟨h.v.below hb,h.n2,(hb.block C h.lt).trans h.blk⟩
theorem SegSt.wst (h:SegSt w0 P B x0 x1 x2 x3 x4 x5 x6 x7 x8 C k x l F W) (q:Wst w0.heap.size P F W l2 F2 W2):SegSt w0 P B x0 x1 x2 x3 x4 x5 x6 x7 x8 C k x l2 F2 W2:=by
 refine ⟨h.v.wst q,fun hf=>?_,(q.on.block C h.lt h.n2).trans h.blk⟩
 rcases q.gr C hf with r | r
 ·exact h.n2 r
 ·have:=h.lt;omega
theorem SegSt.add (h:SegSt w0 P B x0 x1 x2 x3 x4 x5 x6 x7 x8 C k x l F W) (q:AddF w0.heap.size P v l2 F W e W2):∃ F2,e=.returned v∧SegSt w0 P B x0 x1 x2 x3 x4 x5 x6 x7 x8 C k x l2 F2 W2:=by
 obtain ⟨F2,h1,h2⟩:=(Wst.new h.v.wr).add q
 exact ⟨F2,h1,h.wst h2⟩
theorem SegSt.cells (h:SegSt w0 P B x0 x1 x2 x3 x4 x5 x6 x7 x8 C k x l F W):W.cell? ⟨C,0,none⟩=some k∧W.cell? ⟨C,1,none⟩=some x:=cell0 h.blk
theorem SegSt.start (h:ValSt w0 P B x0 x1 x2 x3 x4 x5 x6 x7 x8 l F W):SegSt w0 P B x0 x1 x2 x3 x4 x5 x6 x7 x8 W.heap.size k x l F (W.alloc (.cells #[k,x] 108)) :=
 ⟨h.below ((Below.refl _ _).alloc (Nat.le_refl _) _),fun hf=>by have:=(h.wr.lt _ hf).2;omega,heap_alloc_new _ _⟩
end
theorem pathB_take {p:List Piece} {j:Nat} {s:Piece} (h:p[j]?=some s):pathB (p.take (j+1))=pathB (p.take j) ++ segB s:=by
 rw [List.take_add_one,h,Option.toList_some,pathB_append]
 simp [pathB]
theorem pval2 (h o:Int) (vp vc:Value) (hp md pr ag ai:Nat) (w:World) (p:List Piece) (hP:Segs w vp p) (hp1:p.length≤10000) (hp2:lens p≤20000):Calls Tryz.prog 144 #[.agg #[.int .i64 h,.int .i64 o,vp,.int .u32 hp,.int .u32 md,.int .u32 pr,.int .u32 ag,.int .u32 ai,vc],.int .i64 2] w (Gives8 (pathB p) w):=by
 have ST:=hid (val_start w (.int .i64 h) (.int .i64 o) (vp) (.int .u32 hp) (.int .u32 md) (.int .u32 pr) (.int .u32 ag) (.int .u32 ai) (vc))
 obtain ⟨c0,c1,c2,c3,c4,c5,c6,c7,c8⟩:=ST.out.b9.cells
 have HP:=hid hP
 have HL:=hid (And.intro hp1 hp2)
 obtain ⟨Ap,cp,rfl,-,-⟩:=hP.form
 clear hP hp1 hp2
 go_enter Tryz.func144,Tryz.ntmps144
 go_wp2
 clear c0 c1 c2 c3 c4 c5 c6 c7 c8
 go_loopw [19] (fun v19 wx=>∃ (j:Nat) (F:Nat→Prop),j≤p.length∧v19=.int .i64 j∧Hid (ValSt w (.pointer (some ⟨w.heap.size+1,0,none⟩)) w.heap.size (.int .i64 h) (.int .i64 o) (.slice Ap p.length cp) (.int .u32 hp) (.int .u32 md) (.int .u32 pr) (.int .u32 ag) (.int .u32 ai) (vc) (pathB (p.take j)) F wx)) (fun v19 _=>p.length - (intOf v19).toNat)
 case atStart=>exact ⟨0,_,Nat.zero_le _,rfl,ST⟩
 case round =>
  obtain ⟨j,F,hj,rfl,SJ⟩:=hrel
  have hpl:=HL.out.1
  by_cases hlt:j<p.length
  ·obtain ⟨sg,hs⟩:∃ s,p[j]?=some s:=⟨_,List.getElem?_eq_getElem hlt⟩
   obtain ⟨b,off,x,e',hbl,k1,k2,hx⟩:=HP.out.at_ hs
   subst e'
   replace k1:=keeps SJ.out.low k1
   replace k2:=keeps SJ.out.low k2
   obtain ⟨Ax,cx,rfl,-,-,-,-⟩:=hx.open_
   have HT:=hid (pathB_take hs)
   have HX:=hid hx
   have HLN:=hid (show (pathB (p.take j)).length≤100000 by
    have h1:=pathB_len (p.take j)
    have h2:=lens_take_le p j
    have h3:=HL.out
    rw [h1,List.length_take]
    omega)
   have HSN:=hid (show sg.2.length≤20000 by
    have h1:=lens_take hs
    have h2:=lens_take_le p (j+1)
    have h3:=HL.out
    omega)
   obtain ⟨m,hm⟩:∃ m,m=sg.2.length:=⟨_,rfl⟩
   obtain ⟨ks,hks⟩:∃ ks,ks=sg.1:=⟨_,rfl⟩
   have HSB:=hid (show segB sg=[lo8 ks] ++ ([lo8 (m:Int)] ++ fours sg.2) by rw [hm,hks];rfl)
   rw [← hm] at k2 HX
   rw [← hks] at k1
   have z0:(0:Int)≤(j:Int):=by omega
   have z1:(j:Int)<(p.length:Int):=by omega
   have G0:=hid ((SegSt.start SJ.out (k:=.int .i64 ks) (x:=.slice Ax m cx)).below (Below.refl _ _).drew)
   obtain ⟨q0,q1⟩:=G0.out.cells
   clear hs hx hm hks
   go_wp2
   have CA:=hid (fun W (F:Nat→Prop) (l:List Nat) (n:Int) (hl:l.length≤700000) (h:Wr W w.heap.size (.pointer (some ⟨w.heap.size+1,0,none⟩)) l F) (hb:w.heap.size≤W.heap.size)=>w8_put _ _ l F n W h (by omega) hb)
   go_region_held3 (fun w'=>w'.cell? ⟨wr.heap.size,0,none⟩=some (.int .i64 ks)∧w'.cell? ⟨wr.heap.size,1,none⟩=some (.slice Ax m cx)) (exact ⟨by assumption,by assumption⟩) (first
    | (have hq:=G0.out;go_at_call 62;refine (CA.out _ _ _ _ (by have:=HLN.out;omega) hq.v.wr hq.v.low.size).mono ?_;intro e x hA;obtain ⟨F2,rfl,hS⟩:=hq.add hA;have G1:=hid hS;clear hA hS q0 q1 hq G0;obtain ⟨q0,q1⟩:=G1.out.cells)
    | (have hq:=G1.out;go_at_call 62;refine (CA.out _ _ _ _ (by have:=HLN.out;simp;omega) hq.v.wr hq.v.low.size).mono ?_;intro e x hA;obtain ⟨F3,rfl,hS⟩:=hq.add hA;have G2:=hid hS;clear hA hS q0 q1 hq G1;obtain ⟨q0,q1⟩:=G2.out.cells))
   go_wp2_with (go_at_call 167;refine (putAll_any _ _ _ _ sg.2 _ _ G2.out.v.wr (fun W' ho=>HX.out.keep (G2.out.v.low.trans (ho.below (fun k hk=>(G2.out.v.wr.lt k hk).1) G2.out.v.low.size))) (by have h1:=HLN.out;have h2:=HSN.out;simp;omega) G2.out.v.low.size).mono ?_;rintro e x ⟨rfl,F4,hS⟩;have G3:=hid (G2.out.v.wst hS);clear hS q0 q1 G2)
   go_roundw
   case rel =>
    refine ⟨j+1,F4,hlt,by go_num,hid ?_⟩
    rw [HT.out,HSB.out,← List.append_assoc,← List.append_assoc]
    exact G3.out
   case measure=>simp [intOf];omega
  ·obtain rfl:j=p.length:=by omega
   have z1:decide ((p.length:Int)<(p.length:Int))=false:=by simp
   rw [List.take_length] at SJ
   go_wp2_with (go_at_call 63;refine (wbytes_any _ _ _ _ _ SJ.out.wr (by have:=HL.out;rw [pathB_len];omega)).mono ?_;rintro e y ⟨A1,c1,rfl,ho,hy⟩;have HO:=hid (own_base ho SJ.out.low.size);have HY:=hid (SJ.out.low.trans (hy.mono SJ.out.low.size));clear ho hy)
   go_ret
   exact ⟨A1,c1,rfl,HO.out,HY.out⟩
end Att
namespace Att
open Go.RowKit Mem Segm Oct
theorem value_any (v:Value) (a:At) (k:Nat) (w:World) (hv:Attrs w v a) (h1:1≤k) (h8:k≤8) (hp1:a.path.length≤10000) (hp2:lens a.path≤20000) (hc:a.comms.length≤100000) :
  Calls Tryz.prog 144 #[v,.int .i64 k] w (Gives8 (valB a k) w):=by
 obtain ⟨_,vp,vc,rfl,hP,hC⟩:=hv
 have hk:k=1∨k=2∨k=3∨k=4∨k=5∨k=6∨k=7∨k=8:=by omega
 rcases hk with rfl | rfl | rfl | rfl | rfl | rfl | rfl | rfl
 ·exact pval1 a.has a.origin vp vc a.hop a.med a.pref a.aas a.aid w
 ·exact pval2 a.has a.origin vp vc a.hop a.med a.pref a.aas a.aid w a.path hP hp1 hp2
 ·exact pval3 a.has a.origin vp vc a.hop a.med a.pref a.aas a.aid w
 ·exact pval4 a.has a.origin vp vc a.hop a.med a.pref a.aas a.aid w
 ·exact pval5 a.has a.origin vp vc a.hop a.med a.pref a.aas a.aid w
 ·exact pval6 a.has a.origin vp vc a.hop a.med a.pref a.aas a.aid w
 ·exact pval7 a.has a.origin vp vc a.hop a.med a.pref a.aas a.aid w
 ·exact pval8 a.has a.origin vp vc a.hop a.med a.pref a.aas a.aid w a.comms hC hc
structure ItSt (base:Nat) (P:Value) (F0:Nat→Prop) (s:World) (C:Nat) (x0 x1 x2:Value) (l:List Nat) (F:Nat→Prop) (W:World):Prop where
 ws:Wst base P F0 s l F W
 nf:¬ F C
 bx:Box3 W C 161 x0 x1 x2
section
variable {base C:Nat} {P v x0 x1 x2:Value} {F0 F F2:Nat→Prop} {s W W2:World} {l l2:List Nat} {e:Ending}
theorem ItSt.below (h:ItSt base P F0 s C x0 x1 x2 l F W) (hb:Below W.heap.size W W2):ItSt base P F0 s C x0 x1 x2 l F W2:=⟨h.ws.below hb,h.nf,h.bx.keep hb⟩
theorem ItSt.wst (h:ItSt base P F0 s C x0 x1 x2 l F W) (k:Wst base P F W l2 F2 W2):ItSt base P F0 s C x0 x1 x2 l2 F2 W2:=by
 refine ⟨h.ws.then_ k,fun hf=>?_,⟨(k.on.block C h.bx.lt h.nf).trans h.bx.blk⟩⟩
 rcases k.gr C hf with q | q
 ·exact h.nf q
 ·have:=h.bx.lt;omega
theorem ItSt.add (h:ItSt base P F0 s C x0 x1 x2 l F W) (k:AddF base P v l2 F W e W2):∃ F2,e=.returned v∧ItSt base P F0 s C x0 x1 x2 l2 F2 W2:=by
 obtain ⟨F2,h1,h2⟩:=(Wst.new h.ws.wr).add k
 exact ⟨F2,h1,h.wst h2⟩
theorem ItSt.start (h:Wr s base P l F) (x0 x1 x2:Value):ItSt base P F s s.heap.size x0 x1 x2 l F (s.alloc (.cells #[x0,x1,x2] 161)) :=
 ⟨(Wst.new h).below ((Below.refl _ _).alloc (Nat.le_refl _) _),fun hf=>by have:=(h.lt _ hf).2;omega,Box3.new _ _ _ _ _⟩
end
theorem lo8_byte {n:Nat} (h:n<256):lo8 (n:Int)=n:=by unfold lo8;omega
theorem item_short {f k:Nat} {m:List Nat} (h:¬ f / 16 % 2=1) (hf:f<256) (hk:k<256) (hm:m.length≤255):itemB f k m=[lo8 (f:Int)] ++ ([lo8 (k:Int)] ++ sizedS m):=by
 unfold itemB sizedS
 rw [if_neg h,if_pos hm,lo8_byte hf,lo8_byte hk,lo8_byte (by omega)]
 rfl
theorem item_long {f k:Nat} {m:List Nat} (h:f / 16 % 2=1) (hf:f<256) (hk:k<256) (hm:m.length≤65535):itemB f k m=[lo8 (f:Int)] ++ ([lo8 (k:Int)] ++ longS m):=by
 unfold itemB longS
 rw [if_pos h,if_pos hm,lo8_byte hf,lo8_byte hk,big2,show lo8 ((m.length:Int) / 256)=m.length / 256 % 256 by unfold lo8;omega,show lo8 (m.length:Int)=m.length % 256 by unfold lo8;omega]
 rfl
theorem put_short (P:Value) (A:Option Addr) (c base f k:Nat) (l m:List Nat) (F0:Nat→Prop) (s:World) (hW:Wr s base P l F0) (hx:∀ W,Only F0 s W→U8s W (.slice A m.length c) m) (hlen:l.length+m.length≤700000) (hbase:base≤s.heap.size) (hf:f<256) (hk:k<256) (hm:m.length≤255) (hc:¬ f / 16 % 2=1) :
  Calls Tryz.prog 145 #[.agg #[.int .i64 f,.int .i64 k,.slice A m.length c],P] s (fun e w'=>e=.returned (.tuple #[])∧∃ F',Wst base P F0 s (l ++ itemB f k m) F' w'):=by
 rw [item_short hc hf hk hm]
 have n16:bits .and .i64 (f:Int) 16=0:=by rw [byte16 f hf,if_neg hc]
 have G0:=hid ((ItSt.start hW (.int .i64 f) (.int .i64 k) (.slice A m.length c)).below (Below.refl _ _).drew)
 have hW0:=hW
 obtain ⟨bP,sP,rfl,-⟩:=hW0
 obtain ⟨q0,q1,q2⟩:=G0.out.bx.cells
 have HB:=hid (show s.heap.size+1≤_ from G0.out.bx.lt)
 have HBS:=hid hbase
 have HX:=hid hx
 have HN:=hid hlen
 have CA:=hid (fun W (F:Nat→Prop) (l:List Nat) (n:Int) (hl:l.length≤800000) (h:Wr W base (.pointer (some ⟨bP,0,none⟩)) l F) (hb:base≤W.heap.size)=>w8_put _ _ l F n W h (by omega) hb)
 have HM:=hid hm
 clear hx hW hlen hbase hf hk hm hc
 go_enter Tryz.func145,Tryz.ntmps145
 go_wp2
 go_region_held3 (fun w'=>w'.cell? ⟨s.heap.size,0,none⟩=some (.int .i64 f)∧w'.cell? ⟨s.heap.size,1,none⟩=some (.int .i64 k)) (exact ⟨by assumption,by assumption⟩) (first
  | (have hq:=G0.out;go_at_call 62;refine (CA.out _ _ _ _ (by have:=HN.out;omega) hq.ws.wr (Nat.le_trans HBS.out hq.ws.size)).mono ?_;intro e x hA;obtain ⟨F2,rfl,hS⟩:=hq.add hA;have G1:=hid hS;clear hA hS q0 q1 q2 hq G0;obtain ⟨q0,q1,q2⟩:=G1.out.bx.cells)
  | (have hq:=G1.out;go_at_call 62;refine (CA.out _ _ _ _ (by have:=HN.out;simp;omega) hq.ws.wr (Nat.le_trans HBS.out hq.ws.size)).mono ?_;intro e x hA;obtain ⟨F3,rfl,hS⟩:=hq.add hA;have G2:=hid hS;clear hA hS q0 q1 q2 hq G1;obtain ⟨q0,q1,q2⟩:=G2.out.bx.cells))
 go_wp2_with (go_at_call 102;(refine (sizedO_any _ A c base _ m F3 _ G2.out.ws.wr (fun W' ho=>HX.out W' (G2.out.ws.only ho)) (by have:=HN.out;simp;omega) (Nat.le_trans HBS.out G2.out.ws.size)).mono ?_;intro e x hA;obtain ⟨F4,rfl,hS⟩:=G2.out.add hA;have G3:=hid hS;clear hA hS q0 q1 q2))
 go_end0
 refine ⟨rfl,F4,?_⟩
 have h:=G3.out.ws
 rw [List.append_assoc,List.append_assoc] at h
 exact h
theorem put_long (P:Value) (A:Option Addr) (c base f k:Nat) (l m:List Nat) (F0:Nat→Prop) (s:World) (hW:Wr s base P l F0) (hx:∀ W,Only F0 s W→U8s W (.slice A m.length c) m) (hlen:l.length+m.length≤700000) (hbase:base≤s.heap.size) (hf:f<256) (hk:k<256) (hm:m.length≤65535) (hc:f / 16 % 2=1) :
  Calls Tryz.prog 145 #[.agg #[.int .i64 f,.int .i64 k,.slice A m.length c],P] s (fun e w'=>e=.returned (.tuple #[])∧∃ F',Wst base P F0 s (l ++ itemB f k m) F' w'):=by
 rw [item_long hc hf hk hm]
 have n16:bits .and .i64 (f:Int) 16=16:=by rw [byte16 f hf,if_pos hc]
 have G0:=hid ((ItSt.start hW (.int .i64 f) (.int .i64 k) (.slice A m.length c)).below (Below.refl _ _).drew)
 have hW0:=hW
 obtain ⟨bP,sP,rfl,-⟩:=hW0
 obtain ⟨q0,q1,q2⟩:=G0.out.bx.cells
 have HB:=hid (show s.heap.size+1≤_ from G0.out.bx.lt)
 have HBS:=hid hbase
 have HX:=hid hx
 have HN:=hid hlen
 have CA:=hid (fun W (F:Nat→Prop) (l:List Nat) (n:Int) (hl:l.length≤800000) (h:Wr W base (.pointer (some ⟨bP,0,none⟩)) l F) (hb:base≤W.heap.size)=>w8_put _ _ l F n W h (by omega) hb)
 have HM:=hid hm
 clear hx hW hlen hbase hf hk hm hc
 go_enter Tryz.func145,Tryz.ntmps145
 go_wp2
 go_region_held3 (fun w'=>w'.cell? ⟨s.heap.size,0,none⟩=some (.int .i64 f)∧w'.cell? ⟨s.heap.size,1,none⟩=some (.int .i64 k)) (exact ⟨by assumption,by assumption⟩) (first
  | (have hq:=G0.out;go_at_call 62;refine (CA.out _ _ _ _ (by have:=HN.out;omega) hq.ws.wr (Nat.le_trans HBS.out hq.ws.size)).mono ?_;intro e x hA;obtain ⟨F2,rfl,hS⟩:=hq.add hA;have G1:=hid hS;clear hA hS q0 q1 q2 hq G0;obtain ⟨q0,q1,q2⟩:=G1.out.bx.cells)
  | (have hq:=G1.out;go_at_call 62;refine (CA.out _ _ _ _ (by have:=HN.out;simp;omega) hq.ws.wr (Nat.le_trans HBS.out hq.ws.size)).mono ?_;intro e x hA;obtain ⟨F3,rfl,hS⟩:=hq.add hA;have G2:=hid hS;clear hA hS q0 q1 q2 hq G1;obtain ⟨q0,q1,q2⟩:=G2.out.bx.cells))
 go_wp2_with (go_at_call 107;(refine (longO_any _ A c base _ m F3 _ G2.out.ws.wr (fun W' ho=>HX.out W' (G2.out.ws.only ho)) (by have:=HN.out;simp;omega) (Nat.le_trans HBS.out G2.out.ws.size)).mono ?_;intro e x hA;obtain ⟨F4,rfl,hS⟩:=G2.out.add hA;have G3:=hid hS;clear hA hS q0 q1 q2))
 go_end0
 refine ⟨rfl,F4,?_⟩
 have h:=G3.out.ws
 rw [List.append_assoc,List.append_assoc] at h
 exact h
theorem put_item (P:Value) (A:Option Addr) (c base f k:Nat) (l m:List Nat) (F0:Nat→Prop) (s:World) (hW:Wr s base P l F0) (hx:∀ W,Only F0 s W→U8s W (.slice A m.length c) m) (hlen:l.length+m.length≤700000) (hbase:base≤s.heap.size) (hf:f<256) (hk:k<256) (hm:m.length≤65535) (hc:255<m.length→f / 16 % 2=1) :
  Calls Tryz.prog 145 #[.agg #[.int .i64 f,.int .i64 k,.slice A m.length c],P] s (fun e w'=>e=.returned (.tuple #[])∧∃ F',Wst base P F0 s (l ++ itemB f k m) F' w'):=by
 by_cases h:f / 16 % 2=1
 ·exact put_long P A c base f k l m F0 s hW hx hlen hbase hf hk hm h
 ·exact put_short P A c base f k l m F0 s hW hx hlen hbase hf hk (by
   rcases Nat.lt_or_ge 255 m.length with q | q
   ·exact absurd (hc q) h
   ·exact q) h
end Att
namespace Att
open Go.RowKit Mem Segm Oct
theorem fits_any (k n:Nat) (w:World) (hS:Shp w) (hk:1≤k) (hk8:k≤8) (hn:n≤1000000):Calls Tryz.prog 160 #[.int .i64 k,.int .i64 n] w (Tells (.bool (longB k n)) w):=by
 have HB:=hid (Below.refl w.heap.size w)
 have hm:k=2∨k=8∨k=1∨k=3∨k=4∨k=5∨k=6∨k=7:=by omega
 have c0:=(hS k hk8).2
 clear hS hk hk8
 rcases hm with rfl | rfl | rfl | rfl | rfl | rfl | rfl | rfl
 ·have e:longB 2 n=true:=rfl
  rw [e]
  clear c0
  go_enter Tryz.func160,Tryz.ntmps160
  go_wp2
  go_ret
  exact ⟨rfl,HB.out⟩
 ·clear c0
  have wq:wrap64 ((n:Int) / 4)=(n:Int) / 4:=by unfold wrap64;omega
  by_cases h4:n % 4=0
  ·have y4:(n:Int) % 4=0:=by omega
   by_cases h5:n≤1020
   ·have z5:(n:Int) / 4≤255:=by omega
    have e:longB 8 n=true:=by simp [longB,h4,h5]
    rw [e]
    clear hn h4
    go_enter Tryz.func160,Tryz.ntmps160
    go_wp2
    go_ret
    first | exact ⟨rfl,HB.out⟩ | (rw [decide_eq_true z5];exact ⟨rfl,HB.out⟩) | (refine ⟨?_,HB.out⟩;simp [z5];done)
   ·have z5:decide ((n:Int) / 4≤255)=false:=decide_eq_false (by omega)
    have e:longB 8 n=false:=by simp [longB,h5]
    rw [e]
    clear hn h4
    go_enter Tryz.func160,Tryz.ntmps160
    go_wp2
    go_ret
    first | exact ⟨rfl,HB.out⟩ | (rw [z5];exact ⟨rfl,HB.out⟩) | (rw [wq,z5];exact ⟨rfl,HB.out⟩)
  ·have y4:((n:Int) % 4 == 0)=false:=by simp;omega
   have e:longB 8 n=false:=by simp [longB,h4]
   rw [e]
   clear hn h4
   go_enter Tryz.func160,Tryz.ntmps160
   go_wp2
   go_ret
   exact ⟨rfl,HB.out⟩
 all_goals
  have e:∀ m:Nat,((n:Int) == (m:Int))=decide (n=m):=fun m=>by
   by_cases h:n=m
   ·subst h;simp
   ·rw [decide_eq_false h];simp;omega
  have HE:=hid e
  clear e hn
  go_enter Tryz.func160,Tryz.ntmps160
  go_wp2
  go_ret
  refine ⟨?_,HB.out⟩
  show Ending.returned (Value.bool (_ == _))=_
  rw [HE.out]
  rfl
theorem flagged_any (f k:Nat) (vd:Value) (w:World) (hS:Shp w) (hf:f<256) (hk:1≤k) (hk8:k≤8) :
  Calls Tryz.prog 159 #[.agg #[.int .i64 f,.int .i64 k,vd]] w (Tells (.bool (decide (ownF f k=flagN k))) w):=by
 have hb0:Below w.heap.size w (w.alloc (.cells #[.int .i64 f,.int .i64 k,vd] 161)):=(Below.refl _ w).alloc (Nat.le_refl _) _
 have HB:=hid hb0
 obtain ⟨c0,c1,c2⟩:=three_cells w (.int .i64 f) (.int .i64 k) vd 161
 have CF:=hid (flags_any k _ (hS.keep hb0))
 rw [flagN_is] at CF
 have HC:=hid (fun (W:World) (h:Below (w.alloc (.cells #[.int .i64 f,.int .i64 k,vd] 161)).heap.size (w.alloc (.cells #[.int .i64 f,.int .i64 k,vd] 161)) W)=>keepsT h c0)
 have n16:=not16 f hf
 have n32:=byte32 f hf
 have o1:=or192.1
 have o2:=or192.2
 clear hS hb0
 by_cases h7:7≤k
 ·have e:flagN k=192:=by unfold flagN;rw [if_neg (by omega),if_neg (by omega),if_pos (by omega)]
  rw [e] at CF ⊢
  by_cases h32:f / 32 % 2=1
  ·rw [if_pos h32] at n32
   have HE:=hid (show (((if f / 16 % 2=1 then f - 16 else f:Nat):Int) == 224)=decide (ownF f k=192) by
    unfold ownF
    rw [if_pos (show 7≤k∧f / 32 % 2=1 from ⟨h7,h32⟩)]
    by_cases hq:(if f / 16 % 2=1 then f - 16 else f)=224
    ·rw [hq];rfl
    ·rw [decide_eq_false (by omega)];simp;omega)
   generalize (if f / 16 % 2=1 then f - 16 else f)=g at n16 HE
   generalize decide (ownF f k=192)=r at HE ⊢
   clear h32 h7 hf hk hk8 e
   go_enter Tryz.func159,Tryz.ntmps159
   go_wp2_with (go_at_call 143;refine (CF.out).mono ?_;rintro e w1 ⟨rfl,hb⟩;have HB1:=hid (HB.out.trans (hb.mono HB.out.size));have c0':=HC.out _ hb;clear hb)
   go_ret
   exact ⟨by rw [← HE.out];rfl,HB1.out⟩
  ·rw [if_neg h32] at n32
   have HE:=hid (show (((if f / 16 % 2=1 then f - 16 else f:Nat):Int) == 192)=decide (ownF f k=192) by
    unfold ownF
    rw [if_neg (show ¬ (7≤k∧f / 32 % 2=1) from fun h=>h32 h.2)]
    by_cases hq:(if f / 16 % 2=1 then f - 16 else f)=192
    ·rw [hq];rfl
    ·rw [decide_eq_false (by omega)];simp;omega)
   generalize (if f / 16 % 2=1 then f - 16 else f)=g at n16 HE
   generalize decide (ownF f k=192)=r at HE ⊢
   clear h32 h7 hf hk hk8 e
   go_enter Tryz.func159,Tryz.ntmps159
   go_wp2_with (go_at_call 143;refine (CF.out).mono ?_;rintro e w1 ⟨rfl,hb⟩;have HB1:=hid (HB.out.trans (hb.mono HB.out.size));have c0':=HC.out _ hb;clear hb)
   go_ret
   exact ⟨by rw [← HE.out];rfl,HB1.out⟩
 ·have hne:flagN k≠192:=by unfold flagN;split <;> (try split) <;> (try split) <;> omega
  have HE:=hid (show (((if f / 16 % 2=1 then f - 16 else f:Nat):Int) == (flagN k:Nat))=decide (ownF f k=flagN k) by
   unfold ownF
   rw [if_neg (show ¬ (7≤k∧f / 32 % 2=1) from fun h=>h7 h.1)]
   by_cases hq:(if f / 16 % 2=1 then f - 16 else f)=flagN k
   ·rw [hq];simp
   ·rw [decide_eq_false (by omega)];simp;omega)
  generalize (if f / 16 % 2=1 then f - 16 else f)=g at n16 HE
  generalize decide (ownF f k=flagN k)=r at HE ⊢
  generalize flagN k=F at CF HE hne
  have y0:((F:Int) == 192)=false:=by simp;omega
  clear h7 hf hk hk8 hne
  go_enter Tryz.func159,Tryz.ntmps159
  go_wp2_with (go_at_call 143;refine (CF.out).mono ?_;rintro e w1 ⟨rfl,hb⟩;have HB1:=hid (HB.out.trans (hb.mono HB.out.size));have c0':=HC.out _ hb;clear hb)
  go_ret
  exact ⟨by rw [← HE.out];rfl,HB1.out⟩
theorem numbers_any (v:Value) (p:List Piece) (w:World) (hv:Segs w v p) (hl:lens p≤100000) :
  Calls Tryz.prog 115 #[v] w (Tells (.int .i64 (lens p:Nat)) w):=by
 have HV:=hid hv
 obtain ⟨A,c,rfl,hlc,hc⟩:=hv.form
 have HL:=hid hl
 have HB0:=hid (Below.refl w.heap.size w)
 clear hv hl
 go_enter Tryz.func115,Tryz.ntmps115
 go_wp2
 go_loopw [3,8] (fun v3 v8 wr=>∃ i:Nat,i≤p.length∧v3=.int .i64 (lens (p.take i):Nat)∧v8=.int .i64 i∧Hid (Below w.heap.size w wr)) (fun _ v8 _=>p.length - (intOf v8).toNat)
 case atStart=>exact ⟨0,Nat.zero_le _,rfl,rfl,HB0⟩
 case round =>
  obtain ⟨i,hi,rfl,rfl,HBW⟩:=hrel
  by_cases hlt:i<p.length
  ·obtain ⟨s,hs⟩:∃ s,p[i]?=some s:=⟨_,List.getElem?_eq_getElem hlt⟩
   obtain ⟨b,off,x,rfl,hbl,k1,k2,hx⟩:=(HV.out.keep HBW.out).at_ hs
   obtain ⟨Ax,cx,rfl,hlx,hcx,-,-⟩:=hx.open_
   have HE:=hid (lens_take hs)
   have HM:=hid (Nat.le_trans (lens_take_le p (i+1)) HL.out)
   obtain ⟨m,hm⟩:∃ m,m=s.2.length:=⟨_,rfl⟩
   rw [← hm] at k2 HE
   have z0:(0:Int)≤(i:Int):=by omega
   have z1:(i:Int)<(p.length:Int):=by omega
   have y1:wrap64 ((lens (p.take i):Nat)+(m:Int))=((lens (p.take (i+1)):Nat):Int):=by
    have e:=HE.out
    have e2:=HM.out
    rw [e] at e2 ⊢
    unfold wrap64
    omega
   have HB2:=hid (HBW.out.alloc HBW.out.size (.cells #[.int .i64 s.1,.slice Ax m cx] 108))
   clear hx hs hm
   go_wp2
   go_roundw
   case rel=>exact ⟨i+1,by omega,by first | exact congrArg _ y1 | (rw [y1]) | go_num,by go_num,HB2⟩
   case measure=>simp [intOf];omega
  ·obtain rfl:i=p.length:=by omega
   have z1:decide ((p.length:Int)<(p.length:Int))=false:=by simp
   have e:lens (p.take p.length)=lens p:=by rw [List.take_length]
   rw [e]
   go_wp2
   go_ret
   exact ⟨rfl,HBW.out⟩
end Att
namespace Att
open Go.RowKit Mem Segm Rise
theorem pgood8_core (h o:Int) (vp:Value) (Ac:Option Addr) (cl cc:Nat) (hp md pr ag ai:Nat) (w:World) (vN:Value) (n:Nat) (b1 b2 b3 b4 b5 b6 b7 b8 b9:Bool)
  (CN:Hid (∀ W,Below w.heap.size w W→Calls Tryz.prog 113 #[.agg #[.int .i64 h,.int .i64 o,vp,.int .u32 hp,.int .u32 md,.int .u32 pr,.int .u32 ag,.int .u32 ai,.slice Ac cl cc]] W (Tells vN W)))
  (CM:Hid (∀ W,Below w.heap.size w W→Calls Tryz.prog 66 #[.agg #[.int .i64 h,.int .i64 o,vp,.int .u32 hp,.int .u32 md,.int .u32 pr,.int .u32 ag,.int .u32 ai,.slice Ac cl cc],vN] W (Tells (.bool b1) W)))
  (CG:Hid (∀ W,Below w.heap.size w W→Calls Tryz.prog 114 #[vp] W (Tells (.bool b4) W)))
  (CU:Hid (∀ W,Below w.heap.size w W→Calls Tryz.prog 115 #[vp] W (Tells (.int .i64 n) W)))
  (CH:Hid (∀ W,Calls Tryz.prog 116 #[.agg #[.int .i64 h,.int .i64 o,vp,.int .u32 hp,.int .u32 md,.int .u32 pr,.int .u32 ag,.int .u32 ai,.slice Ac cl cc],.int .i64 3] W (Tells (.bool b6) W)))
  (CP:Hid (∀ W,Calls Tryz.prog 117 #[.int .u32 hp] W (Tells (.bool b7) W)))
  (CI:Hid (∀ W,Below w.heap.size w W→Calls Tryz.prog 118 #[.slice Ac cl cc] W (Tells (.bool b8) W)))
  (z2:decide (0≤o)=b2) (z3:decide (o≤2)=b3) (z5:decide ((n:Int)≤2000)=b5) (z9:decide ((cl:Int)≤255)=b9):Calls Tryz.prog 67 #[.agg #[.int .i64 h,.int .i64 o,vp,.int .u32 hp,.int .u32 md,.int .u32 pr,.int .u32 ag,.int .u32 ai,.slice Ac cl cc]] w (Tells (.bool (b1 && b2 && b3 && b4 && b5 && (!b6 || b7) && b8 && b9)) w):=by
 go_enter Tryz.func67,Tryz.ntmps67
 go_wp2
 have HB:=hid ((Below.refl _ w).alloc (Nat.le_refl _) (.cells #[.int .i64 h,.int .i64 o,vp,.int .u32 hp,.int .u32 md,.int .u32 pr,.int .u32 ag,.int .u32 ai,.slice Ac cl cc] 29))
 have HC:=hid (Box9.new w 29 (.int .i64 h) (.int .i64 o) vp (.int .u32 hp) (.int .u32 md) (.int .u32 pr) (.int .u32 ag) (.int .u32 ai) (.slice Ac cl cc))
 obtain ⟨W0,hW0⟩:∃ W,W=w.alloc (.cells #[.int .i64 h,.int .i64 o,vp,.int .u32 hp,.int .u32 md,.int .u32 pr,.int .u32 ag,.int .u32 ai,.slice Ac cl cc] 29):=⟨_,rfl⟩
 rw [← hW0] at HB HC ⊢
 have HKC:=hid (fun (W:World) (h:Below W0.heap.size W0 W)=>(HC.out.keep h).cells)
 have HBW:=hid (fun (W:World) (h:Below W0.heap.size W0 W)=>HB.out.trans (h.mono HB.out.size))
 have BW:=hid (Below.refl W0.heap.size W0).drew
 clear hW0
 refine wp_region_noPanic ?_
 refine wp_region_held_drew (S:=(fun w'=>w'.cell? ⟨w.heap.size,0,none⟩=some (.int .i64 h)∧w'.cell? ⟨w.heap.size,1,none⟩=some (.int .i64 o)∧w'.cell? ⟨w.heap.size,2,none⟩=some vp∧w'.cell? ⟨w.heap.size,3,none⟩=some (.int .u32 hp)∧w'.cell? ⟨w.heap.size,4,none⟩=some (.int .u32 md)∧w'.cell? ⟨w.heap.size,5,none⟩=some (.int .u32 pr)∧w'.cell? ⟨w.heap.size,6,none⟩=some (.int .u32 ag)∧w'.cell? ⟨w.heap.size,7,none⟩=some (.int .u32 ai)∧w'.cell? ⟨w.heap.size,8,none⟩=some (.slice Ac cl cc))) (by kernel_rfl) (HKC.out _ BW.out) (fun hHeld=>?_)
 refine Take.tk 0 3 hHeld ?_
 refine Take.tk 1 4 hHeld ?_
 try simp only [Act.put,Take.nm]
 refine wpAnyH_ready (rs:=[2]) (by kernel_rfl) (by simp) ?_
 refine AllReadyH.cons (o:=_) (by rfl) (fun K hK=>?_) AllReadyH.nil
 go_simp
 go_at_call 113;refine (CN.out _ (HBW.out _ BW.out)).mono ?_;rintro e x ⟨rfl,hb⟩;replace BW:=hid (BW.out.trans (hb.mono BW.out.size));clear hb
 (try go_wp2_with fail)
 refine hK.out _ _ (HKC.out _ BW.out) (fun hHeld1=>?_)
 clear hK K
 try simp only [Act.put,Take.nm]
 refine wpAnyH_ready (rs:=[3]) (by kernel_rfl) (by simp) ?_
 refine AllReadyH.cons (o:=_) (by rfl) (fun K hK=>?_) AllReadyH.nil
 go_simp
 go_at_call 66;refine (CM.out _ (HBW.out _ BW.out)).mono ?_;rintro e x ⟨rfl,hb⟩;replace BW:=hid (BW.out.trans (hb.mono BW.out.size));clear hb
 (try go_wp2_with fail)
 refine hK.out _ _ (HKC.out _ BW.out) (fun hHeld2=>?_)
 clear hK K
 try simp only [Act.put,Take.nm]
 cases b1 with
 | false =>
  refine Take.tk 4 7 hHeld2 ?_
  refine Take.sk [(5,8),(6,9),(7,10)] hHeld2 ?_
  try simp only [Take.fl,Act.put,Take.nm]
  refine Take.tk 8 11 hHeld2 ?_
  refine Take.tk 9 12 hHeld2 ?_
  try simp only [Act.put,Take.nm]
  refine Take.sk [(10,13),(11,14),(12,15)] hHeld2 ?_
  try simp only [Take.fl,Act.put,Take.nm]
  refine Take.tk 13 16 hHeld2 ?_
  refine Take.tk 14 17 hHeld2 ?_
  refine Take.sk [(15,18),(16,19),(17,20)] hHeld2 ?_
  try simp only [Take.fl,Act.put,Take.nm]
  refine Take.tk 18 21 hHeld2 ?_
  try simp only [Act.put,Take.nm]
  refine Take.tk 19 22 hHeld2 ?_
  refine Take.sk [(20,23),(21,24),(22,25),(23,26)] hHeld2 ?_
  try simp only [Take.fl,Act.put,Take.nm]
  refine Take.tk 24 27 hHeld2 ?_
  refine Take.tk 25 28 hHeld2 ?_
  try simp only [Act.put,Take.nm]
  refine Take.sk [(26,29),(27,30),(28,31),(29,32),(30,33),(31,34),(32,35),(33,36)] hHeld2 ?_
  try simp only [Take.fl,Act.put,Take.nm]
  refine Take.tk 34 37 hHeld2 ?_
  refine Take.tk 35 38 hHeld2 ?_
  refine Take.sk [(36,39),(37,40),(38,41)] hHeld2 ?_
  try simp only [Take.fl,Act.put,Take.nm]
  refine Take.tk 39 42 hHeld2 ?_
  try simp only [Act.put,Take.nm]
  refine Take.tk 40 43 hHeld2 ?_
  refine Take.sk [(41,44),(42,45),(43,46),(44,47)] hHeld2 ?_
  try simp only [Take.fl,Act.put,Take.nm]
  refine Take.tk 45 48 hHeld2 ?_
  refine Take.tk 46 2 hHeld2 ?_
  try simp only [Act.put,Take.nm]
  refine wpAnyH_done (by kernel_rfl) ?_ _
  refine NoPanic.normal ?_
  go_wp2
  go_ret
  exact ⟨rfl,HBW.out _ BW.out⟩
 | true =>
  refine Take.tk 4 7 hHeld2 ?_
  refine Take.tk 5 8 hHeld2 ?_
  refine Take.tk 6 9 hHeld2 ?_
  try simp only [Act.put,Take.nm]
  refine Take.tk (v:=.bool b2) 7 10 hHeld2 ?_
  cases b2 with
  | false =>
   refine Take.tk 8 11 hHeld2 ?_
   refine Take.tk 9 12 hHeld2 ?_
   try simp only [Act.put,Take.nm]
   refine Take.sk [(10,13),(11,14),(12,15)] hHeld2 ?_
   try simp only [Take.fl,Act.put,Take.nm]
   refine Take.tk 13 16 hHeld2 ?_
   refine Take.tk 14 17 hHeld2 ?_
   refine Take.sk [(15,18),(16,19),(17,20)] hHeld2 ?_
   try simp only [Take.fl,Act.put,Take.nm]
   refine Take.tk 18 21 hHeld2 ?_
   try simp only [Act.put,Take.nm]
   refine Take.tk 19 22 hHeld2 ?_
   refine Take.sk [(20,23),(21,24),(22,25),(23,26)] hHeld2 ?_
   try simp only [Take.fl,Act.put,Take.nm]
   refine Take.tk 24 27 hHeld2 ?_
   refine Take.tk 25 28 hHeld2 ?_
   try simp only [Act.put,Take.nm]
   refine Take.sk [(26,29),(27,30),(28,31),(29,32),(30,33),(31,34),(32,35),(33,36)] hHeld2 ?_
   try simp only [Take.fl,Act.put,Take.nm]
   refine Take.tk 34 37 hHeld2 ?_
   refine Take.tk 35 38 hHeld2 ?_
   refine Take.sk [(36,39),(37,40),(38,41)] hHeld2 ?_
   try simp only [Take.fl,Act.put,Take.nm]
   refine Take.tk 39 42 hHeld2 ?_
   try simp only [Act.put,Take.nm]
   refine Take.tk 40 43 hHeld2 ?_
   refine Take.sk [(41,44),(42,45),(43,46),(44,47)] hHeld2 ?_
   try simp only [Take.fl,Act.put,Take.nm]
   refine Take.tk 45 48 hHeld2 ?_
   refine Take.tk 46 2 hHeld2 ?_
   try simp only [Act.put,Take.nm]
   refine wpAnyH_done (by kernel_rfl) ?_ _
   refine NoPanic.normal ?_
   go_wp2
   go_ret
   exact ⟨rfl,HBW.out _ BW.out⟩
  | true =>
   refine Take.tk 8 11 hHeld2 ?_
   refine Take.tk 9 12 hHeld2 ?_
   try simp only [Act.put,Take.nm]
   refine Take.tk 10 13 hHeld2 ?_
   refine Take.tk 11 14 hHeld2 ?_
   refine Take.tk (v:=.bool b3) 12 15 hHeld2 ?_
   try simp only [Act.put,Take.nm]
   cases b3 with
   | false =>
    refine Take.tk 13 16 hHeld2 ?_
    refine Take.tk 14 17 hHeld2 ?_
    refine Take.sk [(15,18),(16,19),(17,20)] hHeld2 ?_
    try simp only [Take.fl,Act.put,Take.nm]
    refine Take.tk 18 21 hHeld2 ?_
    try simp only [Act.put,Take.nm]
    refine Take.tk 19 22 hHeld2 ?_
    refine Take.sk [(20,23),(21,24),(22,25),(23,26)] hHeld2 ?_
    try simp only [Take.fl,Act.put,Take.nm]
    refine Take.tk 24 27 hHeld2 ?_
    refine Take.tk 25 28 hHeld2 ?_
    try simp only [Act.put,Take.nm]
    refine Take.sk [(26,29),(27,30),(28,31),(29,32),(30,33),(31,34),(32,35),(33,36)] hHeld2 ?_
    try simp only [Take.fl,Act.put,Take.nm]
    refine Take.tk 34 37 hHeld2 ?_
    refine Take.tk 35 38 hHeld2 ?_
    refine Take.sk [(36,39),(37,40),(38,41)] hHeld2 ?_
    try simp only [Take.fl,Act.put,Take.nm]
    refine Take.tk 39 42 hHeld2 ?_
    try simp only [Act.put,Take.nm]
    refine Take.tk 40 43 hHeld2 ?_
    refine Take.sk [(41,44),(42,45),(43,46),(44,47)] hHeld2 ?_
    try simp only [Take.fl,Act.put,Take.nm]
    refine Take.tk 45 48 hHeld2 ?_
    refine Take.tk 46 2 hHeld2 ?_
    try simp only [Act.put,Take.nm]
    refine wpAnyH_done (by kernel_rfl) ?_ _
    refine NoPanic.normal ?_
    go_wp2
    go_ret
    exact ⟨rfl,HBW.out _ BW.out⟩
   | true =>
    refine Take.tk 13 16 hHeld2 ?_
    refine Take.tk 14 17 hHeld2 ?_
    refine Take.tk 15 18 hHeld2 ?_
    try simp only [Act.put,Take.nm]
    refine Take.tk 16 19 hHeld2 ?_
    try simp only [Act.put,Take.nm]
    refine wpAnyH_ready (rs:=[17]) (by kernel_rfl) (by simp) ?_
    refine AllReadyH.cons (o:=_) (by rfl) (fun K hK=>?_) AllReadyH.nil
    go_simp
    go_at_call 114;refine (CG.out _ (HBW.out _ BW.out)).mono ?_;rintro e x ⟨rfl,hb⟩;replace BW:=hid (BW.out.trans (hb.mono BW.out.size));clear hb
    (try go_wp2_with fail)
    refine hK.out _ _ (HKC.out _ BW.out) (fun hHeld3=>?_)
    clear hK K
    try simp only [Act.put,Take.nm]
    cases b4 with
    | false =>
     refine Take.tk 18 21 hHeld3 ?_
     refine Take.tk 19 22 hHeld3 ?_
     refine Take.sk [(20,23),(21,24),(22,25),(23,26)] hHeld3 ?_
     try simp only [Take.fl,Act.put,Take.nm]
     refine Take.tk 24 27 hHeld3 ?_
     try simp only [Act.put,Take.nm]
     refine Take.tk 25 28 hHeld3 ?_
     refine Take.sk [(26,29),(27,30),(28,31),(29,32),(30,33),(31,34),(32,35),(33,36)] hHeld3 ?_
     try simp only [Take.fl,Act.put,Take.nm]
     refine Take.tk 34 37 hHeld3 ?_
     refine Take.tk 35 38 hHeld3 ?_
     try simp only [Act.put,Take.nm]
     refine Take.sk [(36,39),(37,40),(38,41)] hHeld3 ?_
     try simp only [Take.fl,Act.put,Take.nm]
     refine Take.tk 39 42 hHeld3 ?_
     refine Take.tk 40 43 hHeld3 ?_
     refine Take.sk [(41,44),(42,45),(43,46),(44,47)] hHeld3 ?_
     try simp only [Take.fl,Act.put,Take.nm]
     refine Take.tk 45 48 hHeld3 ?_
     try simp only [Act.put,Take.nm]
     refine Take.tk 46 2 hHeld3 ?_
     refine wpAnyH_done (by kernel_rfl) ?_ _
     refine NoPanic.normal ?_
     go_wp2
     go_ret
     exact ⟨rfl,HBW.out _ BW.out⟩
    | true =>
     refine Take.tk 18 21 hHeld3 ?_
     refine Take.tk 19 22 hHeld3 ?_
     refine Take.tk 20 23 hHeld3 ?_
     try simp only [Act.put,Take.nm]
     refine Take.tk 21 24 hHeld3 ?_
     try simp only [Act.put,Take.nm]
     refine wpAnyH_ready (rs:=[22]) (by kernel_rfl) (by simp) ?_
     refine AllReadyH.cons (o:=_) (by rfl) (fun K hK=>?_) AllReadyH.nil
     go_simp
     go_at_call 115;refine (CU.out _ (HBW.out _ BW.out)).mono ?_;rintro e x ⟨rfl,hb⟩;replace BW:=hid (BW.out.trans (hb.mono BW.out.size));clear hb
     (try go_wp2_with fail)
     refine hK.out _ _ (HKC.out _ BW.out) (fun hHeld4=>?_)
     clear hK K
     try simp only [Act.put,Take.nm]
     refine Take.tk (v:=.bool b5) 23 26 hHeld4 ?_
     cases b5 with
     | false =>
      refine Take.tk 24 27 hHeld4 ?_
      refine Take.tk 25 28 hHeld4 ?_
      try simp only [Act.put,Take.nm]
      refine Take.sk [(26,29),(27,30),(28,31),(29,32),(30,33),(31,34),(32,35),(33,36)] hHeld4 ?_
      try simp only [Take.fl,Act.put,Take.nm]
      refine Take.tk 34 37 hHeld4 ?_
      refine Take.tk 35 38 hHeld4 ?_
      refine Take.sk [(36,39),(37,40),(38,41)] hHeld4 ?_
      try simp only [Take.fl,Act.put,Take.nm]
      refine Take.tk 39 42 hHeld4 ?_
      try simp only [Act.put,Take.nm]
      refine Take.tk 40 43 hHeld4 ?_
      refine Take.sk [(41,44),(42,45),(43,46),(44,47)] hHeld4 ?_
      try simp only [Take.fl,Act.put,Take.nm]
      refine Take.tk 45 48 hHeld4 ?_
      refine Take.tk 46 2 hHeld4 ?_
      try simp only [Act.put,Take.nm]
      refine wpAnyH_done (by kernel_rfl) ?_ _
      refine NoPanic.normal ?_
      go_wp2
      go_ret
      exact ⟨rfl,HBW.out _ BW.out⟩
     | true =>
      refine Take.tk 24 27 hHeld4 ?_
      refine Take.tk 25 28 hHeld4 ?_
      try simp only [Act.put,Take.nm]
      refine Take.tk 26 29 hHeld4 ?_
      try simp only [Act.put,Take.nm]
      refine wpAnyH_ready (rs:=[27]) (by kernel_rfl) (by simp) ?_
      refine AllReadyH.cons (o:=_) (by rfl) (fun K hK=>?_) AllReadyH.nil
      go_simp
      go_at_call 116;refine (CH.out _).mono ?_;rintro e x ⟨rfl,hb⟩;replace BW:=hid (BW.out.trans (hb.mono BW.out.size));clear hb
      (try go_wp2_with fail)
      refine hK.out _ _ (HKC.out _ BW.out) (fun hHeld5=>?_)
      clear hK K
      try simp only [Act.put,Take.nm]
      cases b6 with
      | false =>
       refine Take.tk 28 31 hHeld5 ?_
       refine Take.tk 29 32 hHeld5 ?_
       refine Take.sk [(30,33),(31,34),(32,35)] hHeld5 ?_
       try simp only [Take.fl,Act.put,Take.nm]
       refine Take.tk 33 36 hHeld5 ?_
       try simp only [Act.put,Take.nm]
       refine Take.tk 34 37 hHeld5 ?_
       refine Take.tk 35 38 hHeld5 ?_
       refine Take.tk 36 39 hHeld5 ?_
       try simp only [Act.put,Take.nm]
       refine Take.tk 37 40 hHeld5 ?_
       try simp only [Act.put,Take.nm]
       refine wpAnyH_ready (rs:=[38]) (by kernel_rfl) (by simp) ?_
       refine AllReadyH.cons (o:=_) (by rfl) (fun K hK=>?_) AllReadyH.nil
       go_simp
       go_at_call 118;refine (CI.out _ (HBW.out _ BW.out)).mono ?_;rintro e x ⟨rfl,hb⟩;replace BW:=hid (BW.out.trans (hb.mono BW.out.size));clear hb
       (try go_wp2_with fail)
       refine hK.out _ _ (HKC.out _ BW.out) (fun hHeld6=>?_)
       clear hK K
       try simp only [Act.put,Take.nm]
       cases b8 with
       | false =>
        refine Take.tk 39 42 hHeld6 ?_
        refine Take.tk 40 43 hHeld6 ?_
        refine Take.sk [(41,44),(42,45),(43,46),(44,47)] hHeld6 ?_
        try simp only [Take.fl,Act.put,Take.nm]
        refine Take.tk 45 48 hHeld6 ?_
        try simp only [Act.put,Take.nm]
        refine Take.tk 46 2 hHeld6 ?_
        refine wpAnyH_done (by kernel_rfl) ?_ _
        refine NoPanic.normal ?_
        go_wp2
        go_ret
        exact ⟨rfl,HBW.out _ BW.out⟩
       | true =>
        refine Take.tk 39 42 hHeld6 ?_
        refine Take.tk 40 43 hHeld6 ?_
        refine Take.tk 41 44 hHeld6 ?_
        try simp only [Act.put,Take.nm]
        refine Take.tk 42 45 hHeld6 ?_
        refine Take.tk 43 46 hHeld6 ?_
        refine Take.tk (v:=.bool b9) 44 47 hHeld6 ?_
        try simp only [Act.put,Take.nm]
        refine Take.tk 45 48 hHeld6 ?_
        refine Take.tk 46 2 hHeld6 ?_
        refine wpAnyH_done (by kernel_rfl) ?_ _
        refine NoPanic.normal ?_
        go_wp2
        go_ret
        exact ⟨rfl,HBW.out _ BW.out⟩
      | true =>
       refine Take.tk 28 31 hHeld5 ?_
       refine Take.tk 29 32 hHeld5 ?_
       refine Take.tk 30 33 hHeld5 ?_
       try simp only [Act.put,Take.nm]
       refine Take.tk 31 34 hHeld5 ?_
       try simp only [Act.put,Take.nm]
       refine wpAnyH_ready (rs:=[32]) (by kernel_rfl) (by simp) ?_
       refine AllReadyH.cons (o:=_) (by rfl) (fun K hK=>?_) AllReadyH.nil
       go_simp
       go_at_call 117;refine (CP.out _).mono ?_;rintro e x ⟨rfl,hb⟩;replace BW:=hid (BW.out.trans (hb.mono BW.out.size));clear hb
       (try go_wp2_with fail)
       refine hK.out _ _ (HKC.out _ BW.out) (fun hHeld6=>?_)
       clear hK K
       try simp only [Act.put,Take.nm]
       cases b7 with
       | false =>
        refine Take.tk 33 36 hHeld6 ?_
        refine Take.tk 34 37 hHeld6 ?_
        refine Take.tk 35 38 hHeld6 ?_
        try simp only [Act.put,Take.nm]
        refine Take.sk [(36,39),(37,40),(38,41)] hHeld6 ?_
        try simp only [Take.fl,Act.put,Take.nm]
        refine Take.tk 39 42 hHeld6 ?_
        refine Take.tk 40 43 hHeld6 ?_
        refine Take.sk [(41,44),(42,45),(43,46),(44,47)] hHeld6 ?_
        try simp only [Take.fl,Act.put,Take.nm]
        refine Take.tk 45 48 hHeld6 ?_
        try simp only [Act.put,Take.nm]
        refine Take.tk 46 2 hHeld6 ?_
        refine wpAnyH_done (by kernel_rfl) ?_ _
        refine NoPanic.normal ?_
        go_wp2
        go_ret
        exact ⟨rfl,HBW.out _ BW.out⟩
       | true =>
        refine Take.tk 33 36 hHeld6 ?_
        refine Take.tk 34 37 hHeld6 ?_
        refine Take.tk 35 38 hHeld6 ?_
        try simp only [Act.put,Take.nm]
        refine Take.tk 36 39 hHeld6 ?_
        refine Take.tk 37 40 hHeld6 ?_
        try simp only [Act.put,Take.nm]
        refine wpAnyH_ready (rs:=[38]) (by kernel_rfl) (by simp) ?_
        refine AllReadyH.cons (o:=_) (by rfl) (fun K hK=>?_) AllReadyH.nil
        go_simp
        go_at_call 118;refine (CI.out _ (HBW.out _ BW.out)).mono ?_;rintro e x ⟨rfl,hb⟩;replace BW:=hid (BW.out.trans (hb.mono BW.out.size));clear hb
        (try go_wp2_with fail)
        refine hK.out _ _ (HKC.out _ BW.out) (fun hHeld7=>?_)
        clear hK K
        try simp only [Act.put,Take.nm]
        cases b8 with
        | false =>
         refine Take.tk 39 42 hHeld7 ?_
         refine Take.tk 40 43 hHeld7 ?_
         refine Take.sk [(41,44),(42,45),(43,46),(44,47)] hHeld7 ?_
         try simp only [Take.fl,Act.put,Take.nm]
         refine Take.tk 45 48 hHeld7 ?_
         try simp only [Act.put,Take.nm]
         refine Take.tk 46 2 hHeld7 ?_
         refine wpAnyH_done (by kernel_rfl) ?_ _
         refine NoPanic.normal ?_
         go_wp2
         go_ret
         exact ⟨rfl,HBW.out _ BW.out⟩
        | true =>
         refine Take.tk 39 42 hHeld7 ?_
         refine Take.tk 40 43 hHeld7 ?_
         refine Take.tk 41 44 hHeld7 ?_
         try simp only [Act.put,Take.nm]
         refine Take.tk 42 45 hHeld7 ?_
         refine Take.tk 43 46 hHeld7 ?_
         refine Take.tk (v:=.bool b9) 44 47 hHeld7 ?_
         try simp only [Act.put,Take.nm]
         refine Take.tk 45 48 hHeld7 ?_
         refine Take.tk 46 2 hHeld7 ?_
         refine wpAnyH_done (by kernel_rfl) ?_ _
         refine NoPanic.normal ?_
         go_wp2
         go_ret
         exact ⟨rfl,HBW.out _ BW.out⟩
end Att
namespace Att
open Go.RowKit Mem Segm Rise
theorem pres_good {a:At} (h1:goodP a.path=true) (h2:rising a.comms):normA a=presA a:=by
 unfold normA presA
 rw [good_norm h1,(setOf_iff _).2 h2]
theorem norm_pres {a:At} (h:normA a=a):presA a=a∧rising a.comms:=by
 obtain ⟨h0,o,p,hp,md,pr,ag,ai,cm⟩:=a
 unfold normA at h
 injection h with e0 e1 e2 e3 e4 e5 e6 e7 e8
 dsimp only at e0 e1 e2 e3 e4 e5 e6 e7 e8
 refine ⟨?_,?_⟩
 ·unfold presA
  dsimp only
  rw [e0,e1,e3,e4,e5,e6,e7]
  congr 1
  ·cases hb:hasB h0 2 with
   | true=>rw [if_pos rfl]
   | false=>rw [hb] at e2;simpa using e2
  ·cases hb:hasB h0 8 with
   | true=>rw [if_pos rfl]
   | false=>rw [hb] at e8;simpa using e8
 ·dsimp only
  cases hb:hasB h0 8 with
  | true=>rw [hb,if_pos rfl] at e8;exact (setOf_iff _).1 e8
  | false =>
   rw [hb] at e8
   have:cm=[]:=by simpa using e8.symm
   rw [this];exact rising_nil
theorem goodA_is (a:At):goodA a=(sameA a (presA a) && decide (0≤a.origin) && decide (a.origin≤2) && goodP a.path && decide (lens a.path≤2000) && (!hasB a.has 3 || hopB a.hop) && decide (rising a.comms) && decide (a.comms.length≤255)):=by
 rw [Bool.eq_iff_iff]
 unfold goodA waysP
 simp only [Bool.and_eq_true,decide_eq_true_eq,sameA_iff]
 constructor
 ·rintro ⟨⟨⟨⟨⟨h1,h2⟩,h3⟩,h4,h5⟩,h6⟩,h7⟩
  obtain ⟨k1,k2⟩:=norm_pres h1
  exact ⟨⟨⟨⟨⟨⟨⟨k1.symm,h2⟩,h3⟩,h4⟩,h5⟩,h6⟩,k2⟩,h7⟩
 ·rintro ⟨⟨⟨⟨⟨⟨⟨h1,h2⟩,h3⟩,h4⟩,h5⟩,h6⟩,h7⟩,h8⟩
  exact ⟨⟨⟨⟨⟨(pres_good h4 h7).trans h1.symm,h2⟩,h3⟩,h4,h5⟩,h6⟩,h8⟩
theorem good_any (v:Value) (a:At) (w:World) (hv:Attrs w v a) (hln:lens a.path≤100000):Calls Tryz.prog 67 #[v] w (Tells (.bool (goodA a)) w):=by
 rw [goodA_is]
 have hv0:=hv
 obtain ⟨vN,hN,hPN⟩:=present_exact v a w hv
 obtain ⟨hok,vp,vc,rfl,hP,hC⟩:=hv
 have hhop:a.hop<4294967296:=hok.2.2.1
 obtain ⟨Ac,cc,rfl,hlc,hcc,-,-⟩:=hC.open_
 have CN:=hid hPN
 have CM:=hid (fun W (hb:Below w.heap.size w W)=>sameA_any _ vN a (presA a) W (hv0.keep hb) (hN.keep hb))
 have CG:=hid (fun W (hb:Below w.heap.size w W)=>pgood_any vp a.path W (hP.keep hb))
 have CU:=hid (fun W (hb:Below w.heap.size w W)=>numbers_any vp a.path W (hP.keep hb) hln)
 have CH:=hid (fun W=>show Calls Tryz.prog 116 #[.agg #[.int .i64 a.has,.int .i64 a.origin,vp,.int .u32 (a.hop:Nat),.int .u32 (a.med:Nat),.int .u32 (a.pref:Nat),.int .u32 (a.aas:Nat),.int .u32 (a.aid:Nat),.slice Ac a.comms.length cc],.int .i64 3] W (Tells (.bool (hasB a.has 3)) W) from has_any a.has 3 _ _ _ _ _ _ _ _ W (by decide))
 have CP:=hid (fun W=>hop_any a.hop W hhop)
 have CI:=hid (fun W (hb:Below w.heap.size w W)=>Nums.is_any _ a.comms W (hC.keep hb))
 have hd:decide ((a.comms.length:Int)≤255)=decide (a.comms.length≤255):=by rw [decide_eq_decide];omega
 have hn:decide ((lens a.path:Int)≤2000)=decide (lens a.path≤2000):=by rw [decide_eq_decide];omega
 exact pgood8_core _ _ _ _ _ _ _ _ _ _ _ w _ _ _ _ _ _ _ _ _ _ _ CN CM CG CU CH CP CI rfl rfl hn hd
end Att
namespace Att
open Go.RowKit Mem Segm Oct
theorem valB_len {a:At} (hg:goodA a=true) (k:Nat):(valB a k).length≤8200:=by
 have hg2:=hg
 unfold goodA waysP goodP at hg2
 simp only [Bool.and_eq_true,decide_eq_true_eq] at hg2
 obtain ⟨⟨⟨_,⟨⟨h1,_⟩,h2⟩⟩,_⟩,h3⟩:=hg2
 unfold valB
 repeat' split
 all_goals first
  | (rw [pathB_len];omega)
  | (rw [fours_len];omega)
  | (simp only [List.length_append,big_len,List.length_cons,List.length_nil];omega)
theorem valB_small (a:At) (k:Nat):Small (valB a k):=by
 unfold valB
 repeat' split
 all_goals first
  | exact pathB_small _
  | exact fours_small _
  | exact big_small _ _
  | exact (big_small _ _).append (big_small _ _)
  | exact small_nil
  | (intro n hn;rw [List.mem_singleton.1 hn];exact lo8_lt _)
theorem flagN_is3 {k:Nat} (h1:1≤k) (h8:k≤8):flagN k=64∨flagN k=128∨flagN k=192:=by
 unfold flagN
 split
 ·exact .inl rfl
 ·split
  ·exact .inr (.inl rfl)
  ·rw [if_pos (by omega)];exact .inr (.inr rfl)
theorem attrB_len {a:At} (hg:goodA a=true) (k:Nat):(attrB a k).length≤8300:=by
 have h:=valB_len hg k
 unfold attrB itemB
 split <;> simp only [List.length_cons,List.length_append,big_len] <;> omega
theorem encTo_len {a:At} (hg:goodA a=true):∀ k,(encTo a k).length≤8300*k
 | 0=>Nat.le_refl _
 | k+1=>by
  have ih:=encTo_len hg k
  have h2:=attrB_len hg (k+1)
  unfold encTo
  rw [List.length_append]
  split
  ·omega
  ·simp only [List.length_nil];omega
def EncA (a:At) (w:World) (e:Ending) (w':World):Prop :=
 (goodA a=false∧e=.returned (.tuple #[.slice none 0 0,.int .i64 1])∧Below w.heap.size w w') ∨
 (goodA a=true∧∃ A c,e=.returned (.tuple #[.slice A (encA a).length c,.int .i64 0])∧w'.ownsRow w.heap.size 5 1 (.slice A (encA a).length c) (encA a).length (cells8 (encA a))∧Below w.heap.size w w')
section
variable {w0 W W2:World} {P:Value} {B:Nat} {x0 x1 x2 x3 x4 x5 x6 x7 x8:Value} {l:List Nat} {F:Nat→Prop}
theorem ValSt.box (h:ValSt w0 P B x0 x1 x2 x3 x4 x5 x6 x7 x8 l F W) (x y z:Value):ValSt w0 P B x0 x1 x2 x3 x4 x5 x6 x7 x8 l F (W.alloc (.cells #[x,y,z] 161))∧(Box3 (W.alloc (.cells #[x,y,z] 161)) W.heap.size 161 x y z∧¬ F W.heap.size∧B≠W.heap.size∧w0.heap.size≤W.heap.size) :=
 ⟨h.below ((Below.refl _ _).alloc (Nat.le_refl _) _),Box3.new _ _ _ _ _,fun hf=>by have:=(h.wr.lt _ hf).2;omega,by have:=h.b9.lt;omega,h.low.size⟩
theorem ValSt.boxn (h:ValSt w0 P B x0 x1 x2 x3 x4 x5 x6 x7 x8 l F W) {n:Nat} (hn:W.heap.size=n) (x y z:Value):ValSt w0 P B x0 x1 x2 x3 x4 x5 x6 x7 x8 l F (W.alloc (.cells #[x,y,z] 161))∧(Box3 (W.alloc (.cells #[x,y,z] 161)) n 161 x y z∧¬ F n∧B≠n∧w0.heap.size≤n):=by
 subst hn
 exact h.box x y z
theorem ValSt.laid (h:ValSt w0 P B x0 x1 x2 x3 x4 x5 x6 x7 x8 l F W) {C:Nat} (x y z:Value) (hF:¬ F C) (hB:B≠C) (hl:w0.heap.size≤C):ValSt w0 P B x0 x1 x2 x3 x4 x5 x6 x7 x8 l F (three W C x y z):=by
 have ho:=three_off W C x y z
 exact ⟨h.wr.keep (fun k hk=>ho.1 k (fun e=>hF (e ▸ hk))),h.nb,⟨(ho.1 B hB).trans h.b9.blk⟩,three_low h.low C hl _ _ _⟩
end
theorem ValSt.set1 {w0 W:World} {P:Value} {B C i:Nat} {x0 x1 x2 x3 x4 x5 x6 x7 x8:Value} {l:List Nat} {F:Nat→Prop} (h:ValSt w0 P B x0 x1 x2 x3 x4 x5 x6 x7 x8 l F W) (v:Value) (hF:¬ F C) (hB:B≠C) (hl:w0.heap.size≤C):ValSt w0 P B x0 x1 x2 x3 x4 x5 x6 x7 x8 l F (W.setCell ⟨C,i,none⟩ v) :=
 ⟨h.wr.keep (fun k hk=>Go.RowKit.Below.heap_setCell _ _ _ _ (fun e=>hF (by have e2:k=C:=e;exact e2 ▸ hk))),h.nb,box_far h.b9 hB,h.low.setCell (p:=⟨C,i,none⟩) hl v⟩
def Beside (W:World) (F:Nat→Prop) (v:Value) (m:List Nat):Prop:=U8s W v m∧Lies W.heap.size F v
theorem Beside.keep {W W':World} {F:Nat→Prop} {v:Value} {m:List Nat} (h:Beside W F v m) (hb:Below W.heap.size W W'):Beside W' F v m :=
 ⟨h.1.keep hb,fun g hg=>⟨Nat.lt_of_lt_of_le (h.2 g hg).1 hb.size,(h.2 g hg).2⟩⟩
theorem Beside.only {W:World} {F:Nat→Prop} {v:Value} {m:List Nat} (h:Beside W F v m):∀ W',Only F W W'→U8s W' v m:=fun _ ho=>h.1.part (fun g hg=>ho.block g (h.2 g hg).1 (h.2 g hg).2) ho.size
theorem Beside.laid {W:World} {F:Nat→Prop} {v:Value} {m:List Nat} {C:Nat} (h:Beside W F v m) (x y z:Value) (hC:∀ g,v.ownBlock=some g→g≠C):Beside (three W C x y z) F v m:=by
 have ho:=three_off W C x y z
 exact ⟨h.1.part (fun g hg=>ho.1 g (hC g hg)) ho.2,fun g hg=>⟨Nat.lt_of_lt_of_le (h.2 g hg).1 ho.2,(h.2 g hg).2⟩⟩
theorem Beside.set1 {W:World} {F:Nat→Prop} {v:Value} {m:List Nat} {C i:Nat} (h:Beside W F v m) (x:Value) (hC:∀ g,v.ownBlock=some g→g≠C):Beside (W.setCell ⟨C,i,none⟩ x) F v m :=
 ⟨h.1.part (fun g hg=>Go.RowKit.Below.heap_setCell _ _ _ _ (hC g hg)) (by simp),fun g hg=>⟨Nat.lt_of_lt_of_le (h.2 g hg).1 (by simp),(h.2 g hg).2⟩⟩
theorem encode_any (v:Value) (a:At) (w:World) (hv:Attrs w v a) (hS:Shp w) (hln:lens a.path≤100000):Calls Tryz.prog 106 #[v] w (EncA a w):=by
 have HV:=hid hv
 obtain ⟨_,vp,vc,rfl,-,-⟩:=hv
 have HSH:=hid hS
 have H1:=hid (Box9.new w 29 (.int .i64 a.has) (.int .i64 a.origin) (vp) (.int .u32 (a.hop:Nat)) (.int .u32 (a.med:Nat)) (.int .u32 (a.pref:Nat)) (.int .u32 (a.aas:Nat)) (.int .u32 (a.aid:Nat)) (vc))
 have B1:=hid (show Below w.heap.size w (w.alloc (.cells #[.int .i64 a.has,.int .i64 a.origin,vp,.int .u32 (a.hop:Nat),.int .u32 (a.med:Nat),.int .u32 (a.pref:Nat),.int .u32 (a.aas:Nat),.int .u32 (a.aid:Nat),vc] 29)) from (Below.refl _ w).alloc (Nat.le_refl _) _)
 obtain ⟨c0,c1,c2,c3,c4,c5,c6,c7,c8⟩:=H1.out.cells
 have CG:=hid (fun (W:World) (h:Below w.heap.size w W)=>good_any _ a W (HV.out.keep h) hln)
 cases hg:goodA a with
 | false =>
  rw [hg] at CG
  clear hS hln
  unfold acells at CG ⊢
  go_enter Tryz.func106,Tryz.ntmps106
  go_wp2_with (go_at_call 67;refine (CG.out _ B1.out).mono ?_;rintro e x ⟨rfl,hb⟩;have B2:=hid (B1.out.trans (hb.mono B1.out.size));clear hb)
  go_ret2
  exact .inl ⟨hg,rfl,B2.out⟩
 | true =>
  rw [hg] at CG
  have HGD:=hid hg
  have CH:=hid (fun (k:Nat) (hk:k≤8) (W:World)=>has_any a.has k (.int .i64 a.origin) vp (.int .u32 (a.hop:Nat)) (.int .u32 (a.med:Nat)) (.int .u32 (a.pref:Nat)) (.int .u32 (a.aas:Nat)) (.int .u32 (a.aid:Nat)) vc W hk)
  clear hS hln hg
  unfold acells at CG HV ⊢
  go_enter Tryz.func106,Tryz.ntmps106
  go_wp2_with (go_at_call 67;refine (CG.out _ B1.out).mono ?_;rintro e x ⟨rfl,hb⟩;have S0:=hid (show ValSt w (.pointer (some ⟨x.heap.size,0,none⟩)) w.heap.size (.int .i64 a.has) (.int .i64 a.origin) (vp) (.int .u32 (a.hop:Nat)) (.int .u32 (a.med:Nat)) (.int .u32 (a.pref:Nat)) (.int .u32 (a.aas:Nat)) (.int .u32 (a.aid:Nat)) (vc) (encTo a 0) (fun k=>k=x.heap.size) (x.alloc (.cells #[.slice none 0 0] 97)) from ⟨wr_zero x (B1.out.trans (hb.mono B1.out.size)).size,(by have h1:=(H1.out.keep hb).lt;show ¬ _=_;omega),(H1.out.keep hb).keep ((Below.refl _ x).alloc (Nat.le_refl _) _),(B1.out.trans (hb.mono B1.out.size)).alloc (B1.out.trans (hb.mono B1.out.size)).size _⟩);clear hb)
  go_loopw [5] (fun v5 wx=>∃ (j:Nat) (F:Nat→Prop),j≤8∧v5=.int .i64 ((j+1:Nat):Int)∧Hid (ValSt w (.pointer (some ⟨x.heap.size,0,none⟩)) w.heap.size (.int .i64 a.has) (.int .i64 a.origin) (vp) (.int .u32 (a.hop:Nat)) (.int .u32 (a.med:Nat)) (.int .u32 (a.pref:Nat)) (.int .u32 (a.aas:Nat)) (.int .u32 (a.aid:Nat)) (vc) (encTo a j) F wx)) (fun v5 _=>12 - (intOf v5).toNat)
  case atStart=>exact ⟨0,_,by omega,rfl,S0⟩
  case round =>
   obtain ⟨j,F,hj,rfl,ST⟩:=hrel
   clear c0 c1 c2 c3 c4 c5 c6 c7 c8
   by_cases hlt:j<8
   ·have z1:((j+1:Nat):Int)≤8:=by omega
    obtain ⟨k,hk⟩:∃ k,k=j+1:=⟨_,rfl⟩
    have HT:=hid (show encTo a k=encTo a j ++ if hasB a.has (k:Int) then attrB a k else [] by rw [hk];rfl)
    have HN:=hid (encTo_len HGD.out j)
    have CHK:=hid (fun W=>CH.out k (by omega) W)
    have wk:wrap64 ((k:Int)+1)=((k+1:Nat):Int):=by unfold wrap64;omega
    rw [← hk] at z1
    rw [← hk]
    have HK:=hid (show 1≤k∧k≤8 from ⟨by omega,by omega⟩)
    obtain ⟨c0,c1,c2,c3,c4,c5,c6,c7,c8⟩:=ST.out.b9.cells
    cases hb:hasB a.has (k:Int) with
    | false =>
     rw [hb] at CHK HT
     clear hb hk
     go_wp2_with (go_at_call 116;refine (CHK.out _).mono ?_;rintro e y ⟨rfl,hy⟩;have S2:=hid (ST.out.below hy);clear hy c0 c1 c2 c3 c4 c5 c6 c7 c8)
     go_roundw
     case rel =>
      refine ⟨k,F,HK.out.2,by first | exact congrArg _ wk | go_num,hid ?_⟩
      rw [HT.out,if_neg (by decide),List.append_nil]
      exact S2.out
     case measure=>have h:=HK.out;simp [intOf];omega
    | true =>
     rw [hb] at CHK HT
     clear hb hk
     have CF:=hid (fun W (h:Below w.heap.size w W)=>show Calls Tryz.prog 143 #[.int .i64 k] W (Tells (.int .i64 (flagN k:Nat)) W) from by
      have q:=flags_any (k:Int) W (HSH.out.keep h)
      rw [flagN_is] at q
      exact q)
     have hgb:=HGD.out
     unfold goodA waysP goodP at hgb
     simp only [Bool.and_eq_true,decide_eq_true_eq] at hgb
     obtain ⟨⟨⟨_,⟨⟨hp1,_⟩,hp2⟩⟩,_⟩,hp3⟩:=hgb
     have CV:=hid (fun W (h:Below w.heap.size w W)=>value_any _ a k W (HV.out.keep h) HK.out.1 HK.out.2 (by omega) (by omega) (by omega))
     clear hp1 hp2 hp3
     have HVL:=hid (And.intro (valB_len HGD.out k) (valB_small a k))
     have HAT:=hid (show attrB a k=itemB (longF (flagN k) (valB a k).length) k (valB a k) from rfl)
     generalize valB a k=m at CV HVL HAT
     go_upto_region 8 with (go_at_call 116;refine (CHK.out _).mono ?_;rintro e y ⟨rfl,hy⟩;replace ST:=hid (ST.out.below hy);clear hy c0 c1 c2 c3 c4 c5 c6 c7 c8;obtain ⟨c0,c1,c2,c3,c4,c5,c6,c7,c8⟩:=ST.out.b9.cells)
     go_cut [6] from 18 to 24 (fun s6 wx=>∃ (C:Nat) (Av:Option Addr) (cv:Nat),s6=.pointer (some ⟨C,0,none⟩)∧Hid (ValSt w (.pointer (some ⟨x.heap.size,0,none⟩)) w.heap.size (.int .i64 a.has) (.int .i64 a.origin) (vp) (.int .u32 (a.hop:Nat)) (.int .u32 (a.med:Nat)) (.int .u32 (a.pref:Nat)) (.int .u32 (a.aas:Nat)) (.int .u32 (a.aid:Nat)) (vc) (encTo a j) F wx)∧Hid (Box3 wx C 161 (.int .i64 (flagN k:Nat)) (.int .i64 k) (.slice Av m.length cv)∧¬ F C∧w.heap.size≠C∧w.heap.size≤C)∧Hid (Beside wx F (.slice Av m.length cv) m)∧Hid (∀ g,(Value.slice Av m.length cv).ownBlock=some g→g≠C))
     case first =>
      have D0:=hid (ST.out.below (Below.refl _ _).drew)
      clear ST c0 c1 c2 c3 c4 c5 c6 c7 c8
      obtain ⟨c0,c1,c2,c3,c4,c5,c6,c7,c8⟩:=D0.out.b9.cells
      go_region_held3 (fun w'=>w'.cell? ⟨w.heap.size,0,none⟩=some (.int .i64 a.has)∧w'.cell? ⟨w.heap.size,1,none⟩=some (.int .i64 a.origin)∧w'.cell? ⟨w.heap.size,2,none⟩=some (vp)∧w'.cell? ⟨w.heap.size,3,none⟩=some (.int .u32 (a.hop:Nat))∧w'.cell? ⟨w.heap.size,4,none⟩=some (.int .u32 (a.med:Nat))∧w'.cell? ⟨w.heap.size,5,none⟩=some (.int .u32 (a.pref:Nat))∧w'.cell? ⟨w.heap.size,6,none⟩=some (.int .u32 (a.aas:Nat))∧w'.cell? ⟨w.heap.size,7,none⟩=some (.int .u32 (a.aid:Nat))∧w'.cell? ⟨w.heap.size,8,none⟩=some (vc)) (first | exact ⟨by assumption,by assumption,by assumption,by assumption,by assumption,by assumption,by assumption,by assumption,by assumption⟩ | exact (D0.out.b9.keep ((Below.refl _ _).alloc (Nat.le_refl _) _)).cells | exact (D0.out.laid _ _ _ BX.out.2.1 BX.out.2.2.1 BX.out.2.2.2).b9.cells) (first
       | (go_at_call 143;((first | (refine (CF.out _ D0.out.low).mono ?_) | (first | (have HNE:=hid (fun g (hg:(Value.slice Av m.length cv).ownBlock=some g)=>Nat.ne_of_lt (HM.out.2 g hg).1);replace HM:=hid (HM.out.keep ((Below.refl _ _).alloc (Nat.le_refl _) (.cells #[.int .i64 0,.int .i64 0,.slice none 0 0] 161)))) | skip);(first | obtain ⟨hD,hB⟩:=D0.out.boxn (n:=y.heap.size) rfl (.int .i64 0) (.int .i64 0) (.slice none 0 0) | obtain ⟨hD,hB⟩:=D0.out.box (.int .i64 0) (.int .i64 0) (.slice none 0 0));replace D0:=hid hD;have BX:=hid hB;clear hD hB;refine (CF.out _ D0.out.low).mono ?_);rintro e z ⟨rfl,hz⟩;(first | replace HM:=hid (HM.out.keep hz) | skip);(first | (replace BX:=hid (And.intro (BX.out.1.keep hz) BX.out.2);obtain ⟨b0,b1,b2⟩:=BX.out.1.cells;have bf:=BX.out.1.free) | skip);replace D0:=hid (D0.out.below hz);clear hz c0 c1 c2 c3 c4 c5 c6 c7 c8;obtain ⟨c0,c1,c2,c3,c4,c5,c6,c7,c8⟩:=D0.out.b9.cells))
       | (go_at_call 144;((first | (refine (CV.out _ D0.out.low).mono ?_) | ((first | obtain ⟨hD,hB⟩:=D0.out.boxn (n:=y.heap.size) rfl (.int .i64 0) (.int .i64 0) (.slice none 0 0) | obtain ⟨hD,hB⟩:=D0.out.box (.int .i64 0) (.int .i64 0) (.slice none 0 0));replace D0:=hid hD;have BX:=hid hB;clear hD hB;refine (CV.out _ D0.out.low).mono ?_));rintro e z ⟨Av,cv,rfl,ho,hz⟩;(first | have HNE:=hid (fun g (hg:(Value.slice Av m.length cv).ownBlock=some g)=>Nat.ne_of_gt (Nat.lt_of_lt_of_le BX.out.1.lt (ho.lt g hg).1)) | skip);have HM:=hid (show Beside z F (.slice Av m.length cv) m from ⟨U8s.of_own ho HVL.out.2,fun g hg=>⟨(ho.lt g hg).2,fun hf=>by have h1:=(D0.out.wr.lt g hf).2;have h2:=(ho.lt g hg).1;omega⟩⟩);(first | (replace BX:=hid (And.intro (BX.out.1.keep hz) BX.out.2);obtain ⟨b0,b1,b2⟩:=BX.out.1.cells;have bf:=BX.out.1.free) | skip);replace D0:=hid (D0.out.below hz);clear ho hz c0 c1 c2 c3 c4 c5 c6 c7 c8;obtain ⟨c0,c1,c2,c3,c4,c5,c6,c7,c8⟩:=D0.out.b9.cells)))
      ·go_wp2_with fail
       go_meet
       exact ⟨_,Av,cv,rfl,hid (D0.out.box _ _ _).1,hid (D0.out.box _ _ _).2,hid (HM.out.keep ((Below.refl _ _).alloc (Nat.le_refl _) _)),hid (fun g hg=>Nat.ne_of_lt (HM.out.2 g hg).1)⟩
      ·go_wp2_with fail
       go_meet
       exact ⟨_,Av,cv,rfl,hid (D0.out.laid _ _ _ BX.out.2.1 BX.out.2.2.1 BX.out.2.2.2),hid ⟨BX.out.1.laid _ _ _,BX.out.2⟩,hid (HM.out.laid _ _ _ HNE.out),HNE⟩
      ·go_wp2_with fail
       go_meet
       exact ⟨_,Av,cv,rfl,hid (D0.out.laid _ _ _ BX.out.2.1 BX.out.2.2.1 BX.out.2.2.2),hid ⟨BX.out.1.laid _ _ _,BX.out.2⟩,hid (HM.out.laid _ _ _ HNE.out),HNE⟩
     case rest =>
     clear ST c0 c1 c2 c3 c4 c5 c6 c7 c8
     obtain ⟨C,Av,cv,rfl,ST,BX,HM,HNE⟩:=hcut
     obtain ⟨b0,b1,b2⟩:=BX.out.1.cells
     have bf:=BX.out.1.free
     have HFL:=hid (flagN_is3 HK.out.1 HK.out.2)
     by_cases hm:255<m.length
     ·have z255:(255:Int)<(m.length:Int):=by omega
      have o16:bits .or .i64 (flagN k:Nat) 16=((flagN k+16:Nat):Int):=by rcases HFL.out with e | e | e <;> rw [e] <;> first | exact or16.1 | exact or16.2.1 | exact or16.2.2
      have HLF:=hid (show attrB a k=itemB (flagN k+16) k m by rw [HAT.out];unfold longF;rw [if_pos hm])
      have BX2:=hid (BX.out.1.set0 (.int .i64 ((flagN k+16:Nat):Int)))
      obtain ⟨q0,q1,q2⟩:=BX2.out.cells
      have ST2:=hid (ST.out.set1 (i:=0) (.int .i64 ((flagN k+16:Nat):Int)) BX.out.2.1 BX.out.2.2.1 BX.out.2.2.2)
      have HM2:=hid (HM.out.set1 (i:=0) (.int .i64 ((flagN k+16:Nat):Int)) HNE.out)
      go_wp2_with (go_at_call 145;(refine (put_item _ Av cv w.heap.size (flagN k+16) k _ m F _ ST2.out.wr HM2.out.only (by have h1:=HN.out;have h2:=HVL.out.1;omega) ST2.out.low.size (by have:=HFL.out;omega) (by have:=HK.out;omega) (by have h2:=HVL.out.1;omega) (by have:=HFL.out;omega)).mono ?_;rintro e z ⟨rfl,F2,hS⟩;have S3:=hid (ST2.out.wst hS);clear hS))
      go_roundw
      case rel =>
       refine ⟨k,F2,HK.out.2,by first | exact congrArg _ wk | go_num,hid ?_⟩
       rw [HT.out,if_pos trivial,HLF.out]
       exact S3.out
      case measure=>have h:=HK.out;simp [intOf];omega
     ·have z255:decide ((255:Int)<(m.length:Int))=false:=decide_eq_false (by omega)
      have HLF:=hid (show attrB a k=itemB (flagN k) k m by rw [HAT.out];unfold longF;rw [if_neg hm])
      go_wp2_with (go_at_call 145;(refine (put_item _ Av cv w.heap.size (flagN k) k _ m F _ ST.out.wr HM.out.only (by have h1:=HN.out;have h2:=HVL.out.1;omega) ST.out.low.size (by have:=HFL.out;omega) (by have:=HK.out;omega) (by have h2:=HVL.out.1;omega) (by have:=HFL.out;omega)).mono ?_;rintro e z ⟨rfl,F2,hS⟩;have S3:=hid (ST.out.wst hS);clear hS))
      go_roundw
      case rel =>
       refine ⟨k,F2,HK.out.2,by first | exact congrArg _ wk | go_num,hid ?_⟩
       rw [HT.out,if_pos trivial,HLF.out]
       exact S3.out
      case measure=>have h:=HK.out;simp [intOf];omega
   ·obtain rfl:j=8:=by omega
    have z1:decide (((8+1:Nat):Int)≤8)=false:=rfl
    have HN:=hid (encTo_len HGD.out 8)
    go_wp2_with (go_at_call 63;(refine (wbytes_any _ _ _ _ _ ST.out.wr (by have:=HN.out;omega)).mono ?_;rintro e y ⟨A1,c1,rfl,ho,hy⟩;have HO:=hid (own_base ho ST.out.low.size);have HY:=hid (ST.out.low.trans (hy.mono ST.out.low.size));clear ho hy))
    go_ret2
    exact .inr ⟨HGD.out,A1,c1,rfl,HO.out,HY.out⟩
end Att
namespace Att
open Go.RowKit Mem Segm Oct
theorem enc_good {v:Value} {a:At} {w:World} (hv:Attrs w v a) (hS:Shp w) (hln:lens a.path≤100000) (hg:goodA a=true):Calls Tryz.prog 106 #[v] w (fun e w'=>∃ A c,e=.returned (.tuple #[.slice A (encA a).length c,.int .i64 0])∧w'.ownsRow w.heap.size 5 1 (.slice A (encA a).length c) (encA a).length (cells8 (encA a))∧Below w.heap.size w w') :=
 (encode_any v a w hv hS hln).mono fun e w' h=>by
  rcases h with ⟨h1,_⟩ | ⟨_,h2⟩
  ·rw [hg] at h1;cases h1
  ·exact h2
end Att
namespace Att
open Go.RowKit Mem Segm Oct
attribute [local go_sem ↓] Go.wp_at_zero Go.wp_at_succ
structure BxSt (w0:World) (x0 x1 x2 x3 x4 x5 x6 x7 x8:Value) (v:Value) (n:Nat) (l:List Nat) (W:World):Prop where
 b9:Box9 W w0.heap.size 29 x0 x1 x2 x3 x4 x5 x6 x7 x8
 own:W.ownsRow (w0.heap.size+1) 5 1 v n (cells8 l)
 low:Below w0.heap.size w0 W
section
variable {w0 W W2:World} {x0 x1 x2 x3 x4 x5 x6 x7 x8 v v2:Value} {l l2:List Nat} {n n2:Nat}
theorem BxSt.below (h:BxSt w0 x0 x1 x2 x3 x4 x5 x6 x7 x8 v n l W) (hb:Below W.heap.size W W2):BxSt w0 x0 x1 x2 x3 x4 x5 x6 x7 x8 v n l W2 :=
 ⟨h.b9.keep hb,own_keep h.own hb,h.low.trans (hb.mono h.low.size)⟩
theorem BxSt.grow (h:BxSt w0 x0 x1 x2 x3 x4 x5 x6 x7 x8 v n l W) (hg:W.grownBy W2 v.ownBlock) (ho:W2.ownsRow (w0.heap.size+1) 5 1 v2 n2 (cells8 l2)):BxSt w0 x0 x1 x2 x3 x4 x5 x6 x7 x8 v2 n2 l2 W2 :=
 ⟨⟨(hg.block _ h.b9.lt (fun he=>by have:=(h.own.lt _ he.symm).1;omega)).trans h.b9.blk⟩,ho,h.low.trans (below_of_grown h.own hg h.b9.lt |>.mono (Nat.le_succ _))⟩
theorem bx_start (w:World) (x0 x1 x2 x3 x4 x5 x6 x7 x8:Value):BxSt w x0 x1 x2 x3 x4 x5 x6 x7 x8 (.slice (some ⟨w.heap.size+1,0,none⟩) 0 0) 0 [] ((w.alloc (.cells #[x0,x1,x2,x3,x4,x5,x6,x7,x8] 29)).alloc (.cells #[] 5)):=by
 have hb:Below w.heap.size w (w.alloc (.cells #[x0,x1,x2,x3,x4,x5,x6,x7,x8] 29)):=(Below.refl _ w).alloc (Nat.le_refl _) _
 have hs:(w.alloc (.cells #[x0,x1,x2,x3,x4,x5,x6,x7,x8] 29)).heap.size=w.heap.size+1:=by simp
 refine ⟨(Box9.new w _ x0 x1 x2 x3 x4 x5 x6 x7 x8).keep ((Below.refl _ _).alloc (Nat.le_refl _) _),?_,hb.alloc hb.size _⟩
 exact own_blk (Nat.le_refl _) (by rw [← hs];exact heap_alloc_new _ _)
end
theorem val7 (h o : Int) (vp vc : Value) (hp md pr ag ai : Nat) (w : World) (ha : ag < 4294967296) (hi : ai < 4294967296) : Calls Tryz.prog 126 #[.agg #[.int .i64 h, .int .i64 o, vp, .int .u32 hp, .int .u32 md, .int .u32 pr, .int .u32 ag, .int .u32 ai, vc], .int .i64 7] w (Gives8 (big ag 4 ++ big ai 4) w) := by
  obtain ⟨i0,E0⟩:=elem8
  have HC:=hid (Box9.new w 29 (.int .i64 h) (.int .i64 o) vp (.int .u32 hp) (.int .u32 md) (.int .u32 pr) (.int .u32 ag) (.int .u32 ai) vc)
  have HB:=hid ((Below.refl _ w).alloc (Nat.le_refl _) (.cells #[.int .i64 h,.int .i64 o,vp,.int .u32 hp,.int .u32 md,.int .u32 pr,.int .u32 ag,.int .u32 ai,vc] 29))
  have CB := hid (fun (n : Nat) (hn : n < 4294967296) W => show Calls Tryz.prog 42 #[.int .u64 n, .int .i64 4] W (fun e w' => ∃ A c, e = .returned (.slice A 4 c) ∧ w'.ownsRow W.heap.size 5 1 (.slice A 4 c) 4 (cells8 (big n 4)) ∧ Below W.heap.size W w') from (big_any n 4 W (by omega) (by omega)).mono fun e w' h => by
    obtain ⟨A,c,h1,h2,h3⟩:=h
    rw [big_len] at h1 h2
    exact ⟨A,c,h1,h2,h3⟩)
  have wa:IntKind.u64.wrap (ag:Int)=(ag:Int):=by rw [IntKind.wrap_u64];omega
  have wi:IntKind.u64.wrap (ai:Int)=(ai:Int):=by rw [IntKind.wrap_u64];omega
  have CA:=hid (CB.out ag ha)
  have CI:=hid (CB.out ai hi)
  obtain ⟨W0,hW0⟩:∃ W0,W0=w.alloc (.cells #[.int .i64 h,.int .i64 o,vp,.int .u32 hp,.int .u32 md,.int .u32 pr,.int .u32 ag,.int .u32 ai,vc] 29):=⟨_,rfl⟩
  rw [← hW0] at HC HB
  have HC2:=hid (HC.out.keep ((Below.refl _ _).alloc (Nat.le_refl _) (.cells #[] 5)))
  have HB2:=hid (HB.out.alloc HB.out.size (.cells #[] 5))
  rw [hW0] at HB2 HC2
  clear hW0 ha hi CB HB HC
  go_enter Tryz.func126,Tryz.ntmps126
  go_wp2
  have D0:=hid (HC2.out.keep ((Below.refl _ _).drew))
  have B0:=hid (HB2.out.trans ((Below.refl _ _).drew.mono HB2.out.size))
  obtain ⟨-,-,-,-,-,-,c6,c7,-⟩:=D0.out.cells
  go_region_held3 (fun w' => w'.cell? ⟨w.heap.size, 6, none⟩ = some (.int .u32 ag) ∧ w'.cell? ⟨w.heap.size, 7, none⟩ = some (.int .u32 ai)) (exact ⟨by assumption, by assumption⟩) (first
    | (have hq:=D0.out;go_at_call 42;refine (CA.out _).mono ?_;rintro e x ⟨A1,q1,rfl,hu,hb⟩;have HU1:=hid (own_base hu (show w.heap.size+1≤_ from hq.lt));have D1:=hid (hq.keep hb);have B1:=hid (B0.out.trans (hb.mono B0.out.size));clear hu hb hq D0 B0 c6 c7;obtain ⟨-,-,-,-,-,-,c6,c7,-⟩:=D1.out.cells)
    | (have hq:=D1.out;go_at_call 42;refine (CI.out _).mono ?_;rintro e x ⟨A2,q2,rfl,hu,hb⟩;have HR2:=hid (Row.of_own hu);have D2:=hid (hq.keep hb);have B2:=hid (B1.out.trans (hb.mono B1.out.size));have HU2:=hid (own_keep HU1.out hb);clear hu hb hq D1 B1 HU1 c6 c7;obtain ⟨-,-,-,-,-,-,c6,c7,-⟩:=D2.out.cells)
    | (have tok := HR2.out
       refine step_append_row (by rfl) (.tmp 92) (.tmp 96) (by rfl) E0 (w.heap.size+1) _ 4 (cells8 (big ag 4)) (by rfl) ?_ _ 4 (cells8 (big ai 4)) (by rfl) ?_ (ones8 _) ?_ ?_ ?_ 8 (by rfl) ?_
       · exact HU2.out
       · exact tok
       · unfold maxLen;omega
       · omega
       · exact D2.out.lt
       intro A3 q3 x3 hown hgr hat hb1
       have HU3:=hid hown
       have D3:=hid (Box9.mk ((hgr.block _ D2.out.lt (fun he=>by have:=HU2.out.lt _ he.symm;omega)).trans D2.out.blk):Box9 x3 w.heap.size _ _ _ _ _ _ _ _ _ _)
       have B3:=hid (B2.out.trans (hb1.mono (Nat.le_succ _)))
       clear hown hgr hat hb1 tok HR2 HU2 c6 c7
       obtain ⟨-,-,-,-,-,-,c6,c7,-⟩:=D3.out.cells))
  go_wp2
  go_loopw [5,8] (fun v5 v8 wx=>v5=.slice A3 8 q3∧v8=.int .i64 0∧wx=x3) (fun _ _ _=>0)
  case atStart=>exact ⟨rfl,rfl,rfl⟩
  case round =>
    obtain ⟨rfl,rfl,rfl⟩:=hrel
    go_wp2
    go_ret
    exact ⟨A3,q3,by rw [List.length_append,big_len,big_len];rfl,by rw [List.length_append,big_len,big_len,cells8_append];exact own_base HU3.out (Nat.le_succ _),B3.out⟩
theorem val8 (h o:Int) (vp vc:Value) (hp md pr ag ai:Nat) (w:World) (cm:List Nat) (hC:U32s w vc cm) (hl:cm.length≤100000):Calls Tryz.prog 126 #[.agg #[.int .i64 h,.int .i64 o,vp,.int .u32 hp,.int .u32 md,.int .u32 pr,.int .u32 ag,.int .u32 ai,vc],.int .i64 8] w (Gives8 (fours cm) w):=by
 obtain ⟨i0,E0⟩:=elem8
 obtain ⟨Ac,cc,rfl,-,-,-,-⟩:=hC.open_
 have HU:=hid hC
 have HL:=hid hl
 have CB:=hid (fun (n:Nat) (hn:n<4294967296) W=>show Calls Tryz.prog 42 #[.int .u64 n,.int .i64 4] W (fun e w'=>∃ A c,e=.returned (.slice A 4 c)∧w'.ownsRow W.heap.size 5 1 (.slice A 4 c) 4 (cells8 (big n 4))∧Below W.heap.size W w') from (big_any n 4 W (by omega) (by omega)).mono fun e w' h=>by
  obtain ⟨A,c,h1,h2,h3⟩:=h
  rw [big_len] at h1 h2
  exact ⟨A,c,h1,h2,h3⟩)
 have ST:=hid (bx_start w (.int .i64 h) (.int .i64 o) vp (.int .u32 hp) (.int .u32 md) (.int .u32 pr) (.int .u32 ag) (.int .u32 ai) (.slice Ac cm.length cc))
 clear hC hl
 go_enter Tryz.func126,Tryz.ntmps126
 go_wp2
 go_loopw [5,8] (fun v5 v8 wx=>∃ (j:Nat) (A:Option Addr) (c:Nat),j≤cm.length∧v8=.int .i64 j∧v5=.slice A (4*j) c∧Hid (BxSt w (.int .i64 h) (.int .i64 o) vp (.int .u32 hp) (.int .u32 md) (.int .u32 pr) (.int .u32 ag) (.int .u32 ai) (.slice Ac cm.length cc) (.slice A (4*j) c) (4*j) (fours (cm.take j)) wx)) (fun _ v8 _=>cm.length - (intOf v8).toNat)
 case atStart=>exact ⟨0,_,_,Nat.zero_le _,rfl,rfl,ST⟩
 case round =>
  obtain ⟨j,A,c,hj,rfl,rfl,SJ⟩:=hrel
  have hcl:=HL.out
  obtain ⟨-,-,-,-,-,-,-,-,c8⟩:=SJ.out.b9.cells
  by_cases hlt:j<cm.length
  ·obtain ⟨b,off,x,rfl,hbl,hx,hx32,k0⟩:=HU.out.at_ hlt
   replace k0:=keeps SJ.out.low k0
   have z0:(0:Int)≤(j:Int):=by omega
   have z1:(j:Int)<(cm.length:Int):=by omega
   have wx:IntKind.u64.wrap (x:Int)=(x:Int):=by rw [IntKind.wrap_u64];omega
   have CX:=hid (CB.out x hx32)
   have HT:=hid (fours_take hx)
   have hj5:j≤100000:=by omega
   clear hx hx32
   go_wp2_with (first
    | (go_at_call 42;refine (CX.out _).mono ?_;rintro e w1 ⟨A1,q1,rfl,hu,hb⟩;have HR:=hid (Row.of_own hu);have S1:=hid (SJ.out.below hb);clear hu hb c8 k0)
    | (at_builtin;refine wpList_append_row rfl (.tmp 109) (.tmp 116) rfl E0 (w.heap.size+1) _ (4*j) (cells8 (fours (cm.take j))) rfl S1.out.own _ 4 _ rfl HR.out (ones8 _) (by unfold maxLen;omega) (by omega) (Nat.succ_le_of_lt S1.out.b9.lt) (4*(j+1)) (by omega) ?_;intro A2 q2 w2 hown hg hat hb;have S2:=hid (S1.out.grow (l2:=fours (cm.take j) ++ big x 4) hg (by rw [cells8_append];exact hown));clear hown hg hat hb S1 HR))
   go_roundw
   case rel =>
    refine ⟨j+1,A2,q2,hlt,by go_num,rfl,hid ?_⟩
    rw [HT.out]
    exact S2.out
   case measure=>simp [intOf];omega
  ·obtain rfl:j=cm.length:=by omega
   have z1:decide ((cm.length:Int)<(cm.length:Int))=false:=by simp
   go_wp2
   go_ret
   have hh:=SJ.out
   rw [List.take_length] at hh
   exact ⟨A,c,by rw [fours_len];rfl,by rw [fours_len];exact own_base hh.own (Nat.le_succ _),hh.low⟩
theorem val2 (h o : Int) (vp vc : Value) (hp md pr ag ai : Nat) (w : World) (p : List Piece) (hP : Segs w vp p) (hp1 : p.length ≤ 10000) (hp2 : lens p ≤ 20000) : Calls Tryz.prog 126 #[.agg #[.int .i64 h, .int .i64 o, vp, .int .u32 hp, .int .u32 md, .int .u32 pr, .int .u32 ag, .int .u32 ai, vc], .int .i64 2] w (Gives8 (pathB p) w) := by
  obtain ⟨i0,E0⟩:=elem8
  obtain ⟨Ap,cp,rfl,-,-⟩:=hP.form
  have HP:=hid hP
  have HL:=hid (And.intro hp1 hp2)
  have CB := hid (fun (n : Nat) (hn : n < 4294967296) W => show Calls Tryz.prog 42 #[.int .u64 n, .int .i64 4] W (fun e w' => ∃ A c, e = .returned (.slice A 4 c) ∧ w'.ownsRow W.heap.size 5 1 (.slice A 4 c) 4 (cells8 (big n 4)) ∧ Below W.heap.size W w') from (big_any n 4 W (by omega) (by omega)).mono fun e w' h => by
    obtain ⟨A,c,h1,h2,h3⟩:=h
    rw [big_len] at h1 h2
    exact ⟨A,c,h1,h2,h3⟩)
  have ST:=hid (bx_start w (.int .i64 h) (.int .i64 o) (.slice Ap p.length cp) (.int .u32 hp) (.int .u32 md) (.int .u32 pr) (.int .u32 ag) (.int .u32 ai) vc)
  clear hP hp1 hp2
  go_enter Tryz.func126,Tryz.ntmps126
  go_wp2
  go_loopw [5,6] (fun v5 v6 wx=>∃ (j n:Nat) (A:Option Addr) (c:Nat),j≤p.length∧v6=.int .i64 j∧v5=.slice A n c∧Hid (n=(pathB (p.take j)).length)∧n≤100000∧Hid (BxSt w (.int .i64 h) (.int .i64 o) (.slice Ap p.length cp) (.int .u32 hp) (.int .u32 md) (.int .u32 pr) (.int .u32 ag) (.int .u32 ai) vc (.slice A n c) n (pathB (p.take j)) wx)) (fun _ v6 _=>p.length - (intOf v6).toNat)
  case atStart=>exact ⟨0,0,_,_,Nat.zero_le _,rfl,rfl,hid rfl,Nat.zero_le _,ST⟩
  case round =>
    obtain ⟨j,n,A,c,hj,rfl,rfl,HN,hn,SJ⟩:=hrel
    have hpl:=HL.out.1
    obtain ⟨-,-,c2,-,-,-,-,-,-⟩:=SJ.out.b9.cells
    by_cases hlt:j<p.length
    · obtain ⟨sg, hs⟩ : ∃ s, p[j]? = some s := ⟨_, List.getElem?_eq_getElem hlt⟩
      obtain ⟨b,off,x,rfl,hbl,k1,k2,hx⟩:=HP.out.at_ hs
      obtain ⟨Ax,cx,rfl,-,-,-,-⟩:=hx.open_
      have HT:=hid (pathB_take hs)
      have HX:=hid hx
      have HNL := hid (show n + (2 + 4 * sg.2.length) ≤ 100000 by
        have h1:=pathB_len (p.take (j+1))
        have h2:=lens_take_le p (j+1)
        have h3:=HL.out
        have h4:=congrArg List.length (pathB_take hs)
        rw [List.length_append,segB_len,← HN.out,h1,List.length_take] at h4
        omega)
      obtain ⟨m,hm⟩:∃ m,m=sg.2.length:=⟨_,rfl⟩
      obtain ⟨ks,hks⟩:∃ ks,ks=sg.1:=⟨_,rfl⟩
      obtain ⟨a1,ha1⟩:∃ a,a=lo8 ks:=⟨_,rfl⟩
      obtain ⟨a2,ha2⟩:∃ a,a=lo8 (m:Int):=⟨_,rfl⟩
      have w1:IntKind.u8.wrap ks=(a1:Int):=by rw [ha1];exact wrap_lo8 _
      have w2:IntKind.u8.wrap (m:Int)=(a2:Int):=by rw [ha2];exact wrap_lo8 _
      have HSB:=hid (show segB sg=[a1,a2] ++ fours sg.2 by rw [ha1,ha2,hm,hks];rfl)
      have HM:=hid hm
      rw [← hm] at k2 HX HNL
      rw [← hks] at k1
      have z0:(0:Int)≤(j:Int):=by omega
      have z1:(j:Int)<(p.length:Int):=by omega
      have HKC:=hid (fun (v:Value) (n:Nat) (l:List Nat) (W:World) (hb:BxSt w (.int .i64 h) (.int .i64 o) (.slice (some ⟨b,off,none⟩) p.length cp) (.int .u32 hp) (.int .u32 md) (.int .u32 pr) (.int .u32 ag) (.int .u32 ai) vc v n l W)=>(⟨hb.b9.cells.2.2.1,keeps hb.low k1,keeps hb.low k2⟩:W.cell? ⟨w.heap.size,2,none⟩=some (.slice (some ⟨b,off,none⟩) p.length cp)∧W.cell? ⟨b,off+j*2,none⟩=some (.int .i64 ks)∧W.cell? ⟨b,off+j*2+1,none⟩=some (.slice Ax m cx)))
      have kc:=HKC.out _ _ _ _ (SJ.out.below ((Below.refl wr.heap.size wr).drew))
      clear hs hx hm hks ha1 ha2 k1 k2 hbl
      go_wp2
      clear c2
      go_region_held3 (fun w' => w'.cell? ⟨w.heap.size, 2, none⟩ = some (.slice (some ⟨b, off, none⟩) p.length cp) ∧ w'.cell? ⟨b, off + j * 2, none⟩ = some (.int .i64 ks) ∧ w'.cell? ⟨b, off + j * 2 + 1, none⟩ = some (.slice Ax m cx)) (first | assumption | exact HKC.out _ _ _ _ (SJ.out.below (((Below.refl wr.heap.size wr).alloc (Nat.le_refl _) (.cells #[.int .u8 a1, .int .u8 a2] 5)).drew))) (first
        | (have tok := SJ.out.below (((Below.refl wr.heap.size wr).alloc (Nat.le_refl _) (.cells #[.int .u8 a1, .int .u8 a2] 5)).drew)
           refine step_append_row (by rfl) (.tmp 27) (.tmp 43) (by rfl) E0 (w.heap.size+1) _ n (cells8 (pathB (p.take j))) (by rfl) ?_ _ 2 (cells8 [a1,a2]) (by rfl) ?_ (ones8 _) ?_ ?_ ?_ (n+2) (by rfl) ?_
           · exact tok.own
           · exact (Row.of_own (World.ownsRow_lit (base:=0) (e:=5) (size:=1) wr #[.int .u8 a1,.int .u8 a2] 2 (Nat.zero_le _) (by decide) rfl)).keep ((Below.refl _ _).drew)
           · unfold maxLen;omega
           · omega
           · exact tok.b9.lt
           intro A1 q1 x1 hown hgr hat hb1
           have S1:=hid (tok.grow (l2:=pathB (p.take j) ++ [a1,a2]) hgr (by rw [cells8_append];exact hown))
           replace kc:=HKC.out _ _ _ _ S1.out
           clear hown hgr hat hb1 tok))
      obtain ⟨c2,k1,k2⟩:=kc
      go_wp2
      obtain ⟨wo,hwo⟩:∃ x,x=x1:=⟨_,rfl⟩
      subst hwo
      have HS1:=hid (show BxSt w (.int .i64 h) (.int .i64 o) (.slice (some ⟨b,off,none⟩) p.length cp) (.int .u32 hp) (.int .u32 md) (.int .u32 pr) (.int .u32 ag) (.int .u32 ai) vc (.slice A1 (n+2) q1) (n+2) (pathB (p.take j) ++ [a1,a2] ++ fours (sg.2.take 0)) wo by rw [List.take_zero,show fours ([]:List Nat)=[] from rfl,List.append_nil];exact S1.out)
      clear c2 k1 k2
      go_loopw [5,7] (fun v5 v7 wx=>∃ (i:Nat) (A:Option Addr) (c:Nat),i≤m∧v7=.int .i64 i∧v5=.slice A (n+2+4*i) c∧Hid (BxSt w (.int .i64 h) (.int .i64 o) (.slice (some ⟨b,off,none⟩) p.length cp) (.int .u32 hp) (.int .u32 md) (.int .u32 pr) (.int .u32 ag) (.int .u32 ai) vc (.slice A (n+2+4*i) c) (n+2+4*i) (pathB (p.take j) ++ [a1,a2] ++ fours (sg.2.take i)) wx)) (fun _ v7 _=>m - (intOf v7).toNat)
      case atStart=>exact ⟨0,A1,q1,Nat.zero_le _,rfl,rfl,HS1⟩
      case round =>
        obtain ⟨i,A2,q2,hi,rfl,rfl,SI⟩:=hrel
        obtain ⟨c2,k1,k2⟩:=HKC.out _ _ _ _ SI.out
        by_cases hil:i<m
        · obtain ⟨b2, off2, y, rfl, hb2, hy, hy32, ky⟩ := (HX.out).at_ (show i < sg.2.length by have := HM.out; omega)
          replace ky:=keeps SI.out.low ky
          have y0:(0:Int)≤(i:Int):=by omega
          have y1:(i:Int)<(m:Int):=by omega
          have wy:IntKind.u64.wrap (y:Int)=(y:Int):=by rw [IntKind.wrap_u64];omega
          have CY:=hid (CB.out y hy32)
          have HY:=hid (fours_take hy)
          have hnb:n+2+4*i+4≤1000000:=by have:=HNL.out;omega
          clear hy hy32
          go_wp2_with (first
            | (go_at_call 42;refine (CY.out _).mono ?_;rintro e x3 ⟨A3,q3,rfl,hu,hb⟩;have HR:=hid (Row.of_own hu);have S3:=hid (SI.out.below hb);clear hu hb c2 k1 k2 ky)
            | (at_builtin;refine wpList_append_row rfl (.tmp 56) (.tmp 67) rfl E0 (w.heap.size+1) _ (n+2+4*i) _ rfl S3.out.own _ 4 _ rfl HR.out (ones8 _) (by unfold maxLen;omega) (by omega) S3.out.b9.lt (n+2+4*(i+1)) (by omega) ?_;intro A4 q4 x4 hown hg hat hb;have S4:=hid (S3.out.grow (l2:=pathB (p.take j) ++ [a1,a2] ++ fours (sg.2.take i) ++ big y 4) hg (by rw [cells8_append];exact hown));clear hown hg hat hb S3 HR))
          go_roundw
          case rel =>
            refine ⟨i+1,A4,q4,hil,by go_num,rfl,hid ?_⟩
            rw [HY.out,← List.append_assoc]
            exact S4.out
          case measure=>simp [intOf];omega
        · obtain rfl : i = m := by omega
          have y1:decide ((i:Int)<(i:Int))=false:=by simp
          go_wp2
          go_roundw
          case rel =>
            have e:=HSB.out
            have e2:=HT.out
            have e3:pathB (p.take (j+1))=pathB (p.take j) ++ [a1,a2] ++ fours (sg.2.take i):=by rw [e2,e,HM.out,List.take_length,List.append_assoc]
            refine ⟨j+1,n+2+4*i,A2,q2,hlt,by go_num,rfl,hid ?_,by have:=HNL.out;omega,hid ?_⟩
            · rw [e3]
              have h1:=SI.out.own.1
              rw [cells8_len,Nat.mul_one] at h1
              exact h1.symm
            · rw [e3];exact SI.out
          case measure=>simp [intOf];omega
    · obtain rfl : j = p.length := by omega
      have z1:decide ((p.length:Int)<(p.length:Int))=false:=by simp
      have hh:=SJ.out
      have hN:=HN.out
      rw [List.take_length] at hh hN
      have HH:=hid hh
      have HN2:=hid hN
      clear hh hN
      go_wp2
      obtain ⟨wo,hwo⟩:∃ x,x=wr:=⟨_,rfl⟩
      subst hwo
      go_loopw [5,8] (fun v5 v8 wx=>v5=.slice A n c∧v8=.int .i64 0∧wx=wo) (fun _ _ _=>0)
      case atStart=>exact ⟨rfl,rfl,rfl⟩
      case round =>
        obtain ⟨rfl,rfl,rfl⟩:=hrel
        go_wp2
        go_ret
        exact ⟨A,c,by rw [← HN2.out];rfl,by rw [← HN2.out];exact own_base HH.out.own (Nat.le_succ _),HH.out.low⟩
end Att
namespace Att
open Go.RowKit Mem Segm Oct
theorem refValue8 (v:Value) (a:At) (k:Nat) (w:World) (hv:Attrs w v a) (hg:goodA a=true) (h1:1≤k) (h8:k≤8) :
  Calls Tryz.prog 126 #[v,.int .i64 k] w (Gives8 (valB a k) w):=by
 obtain ⟨hok,vp,vc,rfl,hP,hC⟩:=hv
 obtain ⟨-,-,o3,o4,o5,o6,o7⟩:=hok
 have hg2:=hg
 unfold goodA waysP goodP at hg2
 simp only [Bool.and_eq_true,decide_eq_true_eq] at hg2
 obtain ⟨⟨⟨⟨⟨_,q1⟩,q2⟩,⟨⟨q3,_⟩,q4⟩⟩,_⟩,q5⟩:=hg2
 have hk:k=1∨k=2∨k=3∨k=4∨k=5∨k=6∨k=7∨k=8:=by omega
 rcases hk with rfl | rfl | rfl | rfl | rfl | rfl | rfl | rfl
 ·have e:valB a 1=[a.origin.toNat]:=by
   show [lo8 a.origin]=_
   have:lo8 a.origin=a.origin.toNat:=by unfold lo8;omega
   rw [this]
  rw [e]
  exact val1 a.has a.origin vp vc a.hop a.med a.pref a.aas a.aid w (by omega) (by omega)
 ·exact val2 a.has a.origin vp vc a.hop a.med a.pref a.aas a.aid w a.path hP (by omega) (by omega)
 ·exact val3 a.has a.origin vp vc a.hop a.med a.pref a.aas a.aid w o3
 ·exact val4 a.has a.origin vp vc a.hop a.med a.pref a.aas a.aid w o4
 ·exact val5 a.has a.origin vp vc a.hop a.med a.pref a.aas a.aid w o5
 ·exact val6 a.has a.origin vp vc a.hop a.med a.pref a.aas a.aid w
 ·exact val7 a.has a.origin vp vc a.hop a.med a.pref a.aas a.aid w o6 o7
 ·exact val8 a.has a.origin vp vc a.hop a.med a.pref a.aas a.aid w a.comms hC (by omega)
structure EnSt (w0:World) (x0 x1 x2 x3 x4 x5 x6 x7 x8:Value) (v:Value) (n:Nat) (l:List Nat) (z:Value) (m:List Nat) (W:World):Prop where
 b:BxSt w0 x0 x1 x2 x3 x4 x5 x6 x7 x8 v n l W
 u:U8s W z m
 ne:∀ g,z.ownBlock=some g→g<W.heap.size∧v.ownBlock≠some g
section
variable {w0 W W2:World} {x0 x1 x2 x3 x4 x5 x6 x7 x8 v v2 z:Value} {l l2 m:List Nat} {n n2:Nat}
theorem EnSt.below (h:EnSt w0 x0 x1 x2 x3 x4 x5 x6 x7 x8 v n l z m W) (hb:Below W.heap.size W W2):EnSt w0 x0 x1 x2 x3 x4 x5 x6 x7 x8 v n l z m W2 :=
 ⟨h.b.below hb,h.u.keep hb,fun g hg=>⟨Nat.lt_of_lt_of_le (h.ne g hg).1 hb.size,(h.ne g hg).2⟩⟩
theorem EnSt.grow (h:EnSt w0 x0 x1 x2 x3 x4 x5 x6 x7 x8 v n l z m W) (hg:W.grownBy W2 v.ownBlock) (ha:v2.ownBlock=v.ownBlock∨v2.ownBlock=some W.heap.size) (ho:W2.ownsRow (w0.heap.size+1) 5 1 v2 n2 (cells8 l2)):EnSt w0 x0 x1 x2 x3 x4 x5 x6 x7 x8 v2 n2 l2 z m W2:=by
 refine ⟨h.b.grow hg ho,h.u.part (fun g hz=>hg.block g (h.ne g hz).1 (fun he=>(h.ne g hz).2 he.symm)) hg.size,fun g hz=>⟨Nat.lt_of_lt_of_le (h.ne g hz).1 hg.size,?_⟩⟩
 rcases ha with e | e
 ·rw [e];exact (h.ne g hz).2
 ·rw [e]
  intro he
  injection he with he
  have:=(h.ne g hz).1
  omega
theorem EnSt.start (h:BxSt w0 x0 x1 x2 x3 x4 x5 x6 x7 x8 v n l W) (hb:Below W.heap.size W W2) (ho:W2.ownsRow W.heap.size 5 1 z m.length (cells8 m)) (hm:Small m):EnSt w0 x0 x1 x2 x3 x4 x5 x6 x7 x8 v n l z m W2:=by
 refine ⟨h.below hb,U8s.of_own ho hm,fun g hz=>⟨(ho.lt g hz).2,fun he=>?_⟩⟩
 have h1:=(ho.lt g hz).1
 have h2:=(h.own.lt g he).2
 omega
end
theorem two8 (W:World) (x y:Nat):Row (W.alloc (.cells #[.int .u8 x,.int .u8 y] 5)) 1 (.slice (some ⟨W.heap.size,0,none⟩) 2 2) 2 (cells8 [x,y]) :=
 Row.of_own (World.ownsRow_lit (base:=0) (e:=5) (size:=1) W #[.int .u8 x,.int .u8 y] 2 (Nat.zero_le _) (by decide) rfl)
theorem three8 (W:World) (x y z:Nat):Row (W.alloc (.cells #[.int .u8 x,.int .u8 y,.int .u8 z] 5)) 1 (.slice (some ⟨W.heap.size,0,none⟩) 3 3) 3 (cells8 [x,y,z]) :=
 Row.of_own (World.ownsRow_lit (base:=0) (e:=5) (size:=1) W #[.int .u8 x,.int .u8 y,.int .u8 z] 3 (Nat.zero_le _) (by decide) rfl)
theorem refEncode8 (v:Value) (a:At) (w:World) (hv:Attrs w v a) (hg:goodA a=true):Calls Tryz.prog 79 #[v] w (Gives8 (encA a) w):=by
 obtain ⟨i0,E0⟩:=elem8
 have HV:=hid hv
 have HGD:=hid hg
 obtain ⟨_,vp,vc,rfl,-,-⟩:=hv
 clear hg
 unfold acells at HV ⊢
 have S0:=hid (bx_start w (.int .i64 a.has) (.int .i64 a.origin) vp (.int .u32 (a.hop:Nat)) (.int .u32 (a.med:Nat)) (.int .u32 (a.pref:Nat)) (.int .u32 (a.aas:Nat)) (.int .u32 (a.aid:Nat)) vc)
 have CH:=hid (fun (k:Nat) (W:World)=>refHas8 a.has k (.int .i64 a.origin) vp (.int .u32 (a.hop:Nat)) (.int .u32 (a.med:Nat)) (.int .u32 (a.pref:Nat)) (.int .u32 (a.aas:Nat)) (.int .u32 (a.aid:Nat)) vc W)
 go_enter Tryz.func79,Tryz.ntmps79
 go_wp2
 go_loopw [3,4] (fun v3 v4 wx=>∃ (j n:Nat) (A:Option Addr) (c:Nat),j≤8∧v4=.int .i64 ((j+1:Nat):Int)∧v3=.slice A n c∧Hid (n=(encTo a j).length)∧n≤100000∧Hid (BxSt w (.int .i64 a.has) (.int .i64 a.origin) vp (.int .u32 (a.hop:Nat)) (.int .u32 (a.med:Nat)) (.int .u32 (a.pref:Nat)) (.int .u32 (a.aas:Nat)) (.int .u32 (a.aid:Nat)) vc (.slice A n c) n (encTo a j) wx)) (fun _ v4 _=>12 - (intOf v4).toNat)
 case atStart=>exact ⟨0,0,_,_,Nat.zero_le _,rfl,rfl,hid rfl,Nat.zero_le _,S0⟩
 case round =>
  obtain ⟨j,n,A,c,hj,rfl,rfl,HN,hn,ST⟩:=hrel
  clear S0
  by_cases hlt:j<8
  ·have z1:((j+1:Nat):Int)≤8:=by omega
   obtain ⟨k,hk⟩:∃ k,k=j+1:=⟨_,rfl⟩
   have HT:=hid (show encTo a k=encTo a j ++ if hasB a.has (k:Int) then attrB a k else [] by rw [hk];rfl)
   have HLK:=hid (encTo_len HGD.out k)
   have CHK:=hid (fun W=>CH.out k W)
   have wk:wrap64 ((k:Int)+1)=((k+1:Nat):Int):=by unfold wrap64;omega
   rw [← hk] at z1
   rw [← hk]
   have HK:=hid (show 1≤k∧k≤8 from ⟨by omega,by omega⟩)
   obtain ⟨c0,c1,c2,c3,c4,c5,c6,c7,c8⟩:=ST.out.b9.cells
   cases hb:hasB a.has (k:Int) with
   | false =>
    rw [hb] at CHK HT
    clear hb hk
    go_wp2_with (go_at_call 73;refine (CHK.out _).mono ?_;rintro e y ⟨rfl,hy⟩;have S2:=hid (ST.out.below hy);clear hy c0 c1 c2 c3 c4 c5 c6 c7 c8)
    go_roundw
    case rel =>
     have e:encTo a k=encTo a j:=by rw [HT.out,if_neg (by decide),List.append_nil]
     refine ⟨k,n,A,c,HK.out.2,by first | exact congrArg _ wk | go_num,rfl,hid (by rw [e];exact HN.out),hn,hid ?_⟩
     rw [e]
     exact S2.out
    case measure=>have h:=HK.out;simp [intOf];omega
   | true =>
    rw [hb] at CHK HT
    have CV:=hid (fun W (h:Below w.heap.size w W)=>refValue8 _ a k W (HV.out.keep h) HGD.out HK.out.1 HK.out.2)
    have HVL:=hid (And.intro (valB_len HGD.out k) (valB_small a k))
    have HAT:=hid (show attrB a k=itemB (longF (flagN k) (valB a k).length) k (valB a k) from rfl)
    have HFL:=hid (flagN_is3 HK.out.1 HK.out.2)
    have CF:=hid (fun W=>show Calls Tryz.prog 127 #[.int .i64 k] W (Tells (.int .i64 (flagN k:Nat)) W) from by
     have q:=refFlags8 (k:Int) W
     rw [flagN_is] at q
     exact q)
    unfold acells at CV
    generalize valB a k=m at CV HVL HAT
    generalize flagN k=f at CF HAT HFL
    have HMN:=hid (show n+4+m.length≤200000 by have:=HVL.out.1;omega)
    have hml:m.length≤8200:=HVL.out.1
    have hf:f≤192:=by rcases HFL.out with e | e | e <;> omega
    have hk9:k≤8:=HK.out.2
    have wf:IntKind.u8.wrap (f:Int)=(f:Int):=by rw [IntKind.wrap_u8];omega
    have wf2:IntKind.u8.wrap ((f:Int)+16)=((f+16:Nat):Int):=by rw [IntKind.wrap_u8];omega
    have wf3:wrap64 ((f:Int)+16)=(f:Int)+16:=by unfold wrap64;omega
    have wk8:IntKind.u8.wrap (k:Int)=(k:Int):=by rw [IntKind.wrap_u8];omega
    have wl:IntKind.u64.wrap (m.length:Int)=(m.length:Int):=by rw [IntKind.wrap_u64];omega
    clear hb hk
    go_upto_region 7 with (first
     | (go_at_call 73;refine (CHK.out _).mono ?_;rintro e y ⟨rfl,hy⟩;have S1:=hid (ST.out.below hy);clear hy c0 c1 c2 c3 c4 c5 c6 c7 c8;obtain ⟨c0,c1,c2,c3,c4,c5,c6,c7,c8⟩:=S1.out.b9.cells)
     | (go_at_call 126;refine (CV.out _ S1.out.low).mono ?_;rintro e y ⟨Av,cv,rfl,ho,hy⟩;have S2:=hid (EnSt.start S1.out hy ho HVL.out.2);clear ho hy S1 c0 c1 c2 c3 c4 c5 c6 c7 c8))
    clear ST
    have CB2:=hid (fun (W:World)=>show Calls Tryz.prog 42 #[.int .u64 (m.length:Nat),.int .i64 2] W (fun e w'=>∃ A c,e=.returned (.slice A 2 c)∧w'.ownsRow W.heap.size 5 1 (.slice A 2 c) 2 (cells8 (big m.length 2))∧Below W.heap.size W w') from (big_any m.length 2 W (by omega) (by omega)).mono fun e w' h=>by
     obtain ⟨A,c,h1,h2,h3⟩:=h
     rw [big_len] at h1 h2
     exact ⟨A,c,h1,h2,h3⟩)
    have hMN:n+4+m.length≤200000:=HMN.out
    by_cases hm:255<m.length
    ·have z255:(255:Int)<(m.length:Int):=by omega
     have HLF:=hid (show attrB a k=[f+16,k] ++ (big m.length 2 ++ m) by
      rw [HAT.out]
      unfold longF itemB
      rw [if_pos hm,if_pos (by rcases HFL.out with e | e | e <;> rw [e])];rfl)
     go_wp2_with (first
      | (go_at_call 127;have tok:=S2.out;refine (CF.out _).mono ?_;rintro e y2 ⟨rfl,hy⟩;have S3:=hid (tok.below hy);clear tok hy S2)
      | (at_builtin;have tok:=S3.out.below ((Below.refl _ _).alloc (Nat.le_refl _) (.cells #[.int .u8 (f+16:Nat),.int .u8 k] 5));refine wpList_append_row rfl (.tmp 21) (.tmp 28) rfl E0 (w.heap.size+1) _ n (cells8 (encTo a j)) rfl tok.b.own _ 2 (cells8 [f+16,k]) rfl (two8 _ _ _) (ones8 _) (by unfold maxLen;omega) (by omega) tok.b.b9.lt (n+2) rfl ?_;intro A1 q1 y3 hown hg hat hb;have S4:=hid (tok.grow (l2:=encTo a j ++ [f+16,k]) hg hat (by rw [cells8_append];exact hown));clear tok hown hg hat hb S3)
      | (go_at_call 42;have tok:=S4.out;refine (CB2.out _).mono ?_;rintro e y4 ⟨A2,q2,rfl,hu,hy⟩;have HR:=hid (Row.of_own hu);have S5:=hid (tok.below hy);clear tok hu hy S4)
      | (at_builtin;have tok:=S5.out;refine wpList_append_row rfl (.tmp 29) (.tmp 33) rfl E0 (w.heap.size+1) _ (n+2) (cells8 (encTo a j ++ [f+16,k])) rfl tok.b.own _ 2 (cells8 (big m.length 2)) rfl HR.out (ones8 _) (by unfold maxLen;omega) (by omega) tok.b.b9.lt (n+4) rfl ?_;intro A3 q3 y5 hown hg hat hb;have S6:=hid (tok.grow (l2:=encTo a j ++ [f+16,k] ++ big m.length 2) hg hat (by rw [cells8_append];exact hown));clear tok hown hg hat hb S5 HR)
      | (at_builtin;have tok:=S6.out;refine wpList_append_row rfl (.tmp 46) (.tmp 47) rfl E0 (w.heap.size+1) _ (n+4) (cells8 (encTo a j ++ [f+16,k] ++ big m.length 2)) rfl tok.b.own _ m.length (cells8 m) rfl tok.u.1 (ones8 _) (by unfold maxLen;omega) (by omega) tok.b.b9.lt (n+4+m.length) rfl ?_;intro A4 q4 y6 hown hg hat hb;have S7:=hid (tok.b.grow (l2:=encTo a j ++ [f+16,k] ++ big m.length 2 ++ m) hg (by rw [cells8_append];exact hown));clear tok hown hg hat hb S6))
     go_roundw
     case rel =>
      have e:encTo a k=encTo a j ++ [f+16,k] ++ big m.length 2 ++ m:=by rw [HT.out,if_pos trivial,HLF.out,List.append_assoc,List.append_assoc]
      refine ⟨k,n+4+m.length,A4,q4,HK.out.2,by first | exact congrArg _ wk | go_num,rfl,hid ?_,?_,hid ?_⟩
      ·rw [e]
       simp only [List.length_append,big_len,← HN.out,List.length_cons,List.length_nil]
      ·have h1:=HLK.out
       rw [e] at h1
       simp only [List.length_append,big_len,← HN.out,List.length_cons,List.length_nil] at h1
       have h2:=HK.out.2
       omega
      ·rw [e];exact S7.out
     case measure=>have h:=HK.out;simp [intOf];omega
    ·have z255:decide ((255:Int)<(m.length:Int))=false:=decide_eq_false (by omega)
     have wl8:IntKind.u8.wrap (m.length:Int)=(m.length:Int):=by rw [IntKind.wrap_u8];omega
     have HLF:=hid (show attrB a k=[f,k,m.length] ++ m by
      rw [HAT.out]
      unfold longF itemB
      rw [if_neg hm,if_neg (by rcases HFL.out with e | e | e <;> rw [e] <;> decide)];rfl)
     go_wp2_with (first
      | (go_at_call 127;have tok:=S2.out;refine (CF.out _).mono ?_;rintro e y2 ⟨rfl,hy⟩;have S3:=hid (tok.below hy);clear tok hy S2)
      | (at_builtin;have tok:=S3.out.below ((Below.refl _ _).alloc (Nat.le_refl _) (.cells #[.int .u8 f,.int .u8 k,.int .u8 m.length] 5));refine wpList_append_row rfl (.tmp 35) (.tmp 44) rfl E0 (w.heap.size+1) _ n (cells8 (encTo a j)) rfl tok.b.own _ 3 (cells8 [f,k,m.length]) rfl (three8 _ _ _ _) (ones8 _) (by unfold maxLen;omega) (by omega) tok.b.b9.lt (n+3) rfl ?_;intro A1 q1 y3 hown hg hat hb;have S4:=hid (tok.grow (l2:=encTo a j ++ [f,k,m.length]) hg hat (by rw [cells8_append];exact hown));clear tok hown hg hat hb S3)
      | (at_builtin;have tok:=S4.out;refine wpList_append_row rfl (.tmp 46) (.tmp 47) rfl E0 (w.heap.size+1) _ (n+3) (cells8 (encTo a j ++ [f,k,m.length])) rfl tok.b.own _ m.length (cells8 m) rfl tok.u.1 (ones8 _) (by unfold maxLen;omega) (by omega) tok.b.b9.lt (n+3+m.length) rfl ?_;intro A4 q4 y6 hown hg hat hb;have S7:=hid (tok.b.grow (l2:=encTo a j ++ [f,k,m.length] ++ m) hg (by rw [cells8_append];exact hown));clear tok hown hg hat hb S4))
     go_roundw
     case rel =>
      have e:encTo a k=encTo a j ++ [f,k,m.length] ++ m:=by rw [HT.out,if_pos trivial,HLF.out,List.append_assoc]
      refine ⟨k,n+3+m.length,A4,q4,HK.out.2,by first | exact congrArg _ wk | go_num,rfl,hid ?_,?_,hid ?_⟩
      ·rw [e]
       simp only [List.length_append,← HN.out,List.length_cons,List.length_nil]
      ·have h1:=HLK.out
       rw [e] at h1
       simp only [List.length_append,← HN.out,List.length_cons,List.length_nil] at h1
       have h2:=HK.out.2
       omega
      ·rw [e];exact S7.out
     case measure=>have h:=HK.out;simp [intOf];omega
  ·obtain rfl:j=8:=by omega
   have z1:decide (((8+1:Nat):Int)≤8)=false:=rfl
   go_wp2
   go_ret
   exact ⟨A,c,by rw [show encA a=encTo a 8 from rfl,← HN.out];rfl,by rw [show encA a=encTo a 8 from rfl,← HN.out];exact own_base ST.out.own (Nat.le_succ _),ST.out.low⟩
end Att
end Go.Proofs.YtjfmompgkkdliaaGreatDoor
