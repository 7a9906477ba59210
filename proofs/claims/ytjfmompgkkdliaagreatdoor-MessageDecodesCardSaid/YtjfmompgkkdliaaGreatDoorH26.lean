/- Part of the proof. -/
import Derived.Test.YtjfmompgkkdliaaGreatDoorH25
import Derived.Sort.WalkA
import Derived.BigGuard
import Derived.BigCall
import Derived.CellFam
import Derived.Deep.Draws
import Derived.Deep.QuietTactic
import Derived.BigQuiet
open Go.Lib (hid)
set_option maxRecDepth 100000
set_option maxHeartbeats 40000000
namespace Go.Proofs.YtjfmompgkkdliaaGreatDoor
namespace Srt
open Go.RowKit Go.Sort
abbrev encN (n:Nat):Value:=.int .u32 n
def ltN (x y:Nat):Bool:=decide (x<y)
theorem swoN:SWO ltN:=⟨fun x=>by simp [ltN],fun x y z=>by simp only [ltN,decide_eq_true_eq];omega,fun x y z=>by simp only [ltN,decide_eq_false_iff_not];omega⟩
def Puts (blk off:Nat) (d':Array Nat) (w:World) (e:Ending) (w':World):Prop:=e=.returned (.tuple #[])∧∃ n,w'=putRow encN (Sort.ahead w n) blk off d'
def PutsG (blk off:Nat) (d':Array Nat) (w:World) (e:Ending) (w':World):Prop:=e=.returned (.tuple #[])∧∃ n os,w'=grow (putRow encN (Sort.ahead w n) blk off d') os
theorem Puts.grown {blk off:Nat} {d':Array Nat} {w w':World} {e:Ending} (h:Puts blk off d' w e w'):PutsG blk off d' w e w':=by
 obtain ⟨he,n,hw⟩:=h
 exact ⟨he,n,#[],by rw [hw,grow_empty]⟩
theorem row_facts {w wr:World} {blk off m:Nat} {d dk:Array Nat} (hH:Holds encN w blk off d) (hs:dk.size=d.size) (hw:wr=putRow encN (Sort.ahead w m) blk off dk) :
  ∃ G:Nat→Nat,(∀ t,G t=dk[t]!)∧(∀ t,t<d.size→wr.cell? ⟨blk,off+t,none⟩=some (.int .u32 (G t)))∧(∀ t,t<d.size→wr.frozen? ⟨blk,off+t,none⟩=false) :=
 ⟨fun t=>dk[t]!,fun _=>rfl,fun t ht=>by rw [hw];exact cell?_putRow _ _ _ _ d dk (holds_ahead _ _ _ _ _ _ hH) hs t (by omega),fun t ht=>by rw [hw,frozen?_putRow];exact ((holds_ahead _ _ m _ _ _ hH) t ht).2⟩
theorem less_q (x y:Nat) (w:World):Calls Tryz.prog 188 #[.int .u32 x,.int .u32 y] w fun e w'=>e=.returned (.bool (ltN x y))∧w'=w :=
 (Nums.less_any x y w).mono fun _ _ ⟨he,hw⟩=>⟨by rw [he];unfold ltN;simp,hw.symm⟩
theorem insertion_any (blk off cap a b:Nat) (d:Array Nat) (w:World) (hH:Holds encN w blk off d) (hab:a≤b) (hb:b≤d.size) (hsz:d.size<4611686018427387904) :
  Calls Tryz.prog 182 #[.slice (some ⟨blk,off,none⟩) d.size cap,.int .i64 a,.int .i64 b] w (Puts blk off (Sort.insertionSort ltN d a b) w):=by
 have HH:=hid hH
 have CL:=hid less_q
 clear hH
 go_enter Tryz.func182,Tryz.ntmps182
 go_wp2
 go_loopw [6] (fun vi wr=>∃ (i n:Nat) (dk:Array Nat),vi=.int .i64 i∧a<i∧i≤b+1∧dk.size=d.size∧Hid (wr=putRow encN (Sort.ahead w n) blk off dk) ∧
   Hid (insOuter ltN a b i dk=insOuter ltN a b (a+1) d)) (fun vi _=>b+1 - (intOf vi).toNat)
 case atStart=>exact ⟨a+1,0,d,by go_num,by omega,by omega,rfl,(putRow_self _ _ _ _ _ HH.out).symm,rfl⟩
 case round =>
  obtain ⟨i,n,dk,rfl,hai,hib,hsk,hwr,hO⟩:=hrel
  by_cases hlt:i<b
  ·go_wp2
   go_loopw [7] (fun vj wr2=>∃ (j m:Nat) (dj:Array Nat),vj=.int .i64 j∧a≤j∧j≤i∧dj.size=d.size∧Hid (wr2=putRow encN (Sort.ahead w m) blk off dj) ∧
     Hid (insInner ltN a j dj=insInner ltN a i dk)) (fun vj _=>(intOf vj).toNat)
   case atStart=>exact ⟨i,n,dk,rfl,by omega,Nat.le_refl _,hsk,hwr,rfl⟩
   case round =>
    obtain ⟨j,m,dj,rfl,haj,hji,hsj,hw2,hI⟩:=hrel
    obtain ⟨G,hG,hcw,hfw⟩:=row_facts HH.out hsj hw2.out
    have HG:=hid hG
    clear hG
    have OUT:=hid (fun (hs:j≤a∨ltN (G j) (G (j - 1))=false) (q:Nat)=>show insOuter ltN a b (i+1) dj=insOuter ltN a b (a+1) d∧wr.drewN q=putRow encN (Sort.ahead w (m+q)) blk off dj from
     ⟨by rw [← hO.out,insOuter_go _ _ _ _ _ hlt,← hI.out,insInner_stop _ _ _ _ (by rw [HG.out,HG.out] at hs;exact hs)],by rw [hw2.out];exact putRow_drewN _ _ _ _ _ _ _⟩)
    by_cases hja:a<j
    ·have hj1:j - 1<d.size:=by omega
     have hj2:j<d.size:=by omega
     cases hl:ltN (G j) (G (j - 1))
     ·have OUT2:=hid (OUT.out (.inr hl))
      have C:=hid (fun w=>hl ▸ CL.out (G j) (G (j - 1)) w)
      clear hl
      go_wp2
      go_quiet (first | (go_at_call 188;refine Calls.quiet_of_same (C.out _)))
      go_wp2
      go_roundw
      case rel=>exact ⟨i+1,_,dj,by go_num,by omega,by omega,hsj,(OUT2.out nq).2,(OUT2.out nq).1⟩
      case measure=>simp [intOf];omega
     ·have C:=hid (fun w=>hl ▸ CL.out (G j) (G (j - 1)) w)
      have GO:=hid (show insInner ltN a (j - 1) (swp dj j (j - 1))=insInner ltN a i dk by rw [← hI.out,insInner_go ltN a j dj hja (by rw [← HG.out,← HG.out];exact hl)])
      clear hl
      go_wp2
      go_quiet (first | (go_at_call 188;refine Calls.quiet_of_same (C.out _)))
      go_wp2
      go_region
      all_goals go_wp2
      go_roundw
      case rel=>exact ⟨j - 1,m+(nq+1),swp dj j (j - 1),by congr 1;omega,by omega,by omega,by rw [size_swp];exact hsj,by
       unfold Hid
       rw [hw2.out,HG.out,HG.out]
       exact swap_worldA _ w m (nq+1) blk off dj j (j - 1) (by omega) (by omega),GO.out⟩
      case measure=>simp [intOf];omega
    ·have OUT2:=hid (OUT.out (.inl (by omega)))
     have hd:decide (a<j)=false:=by simp;omega
     go_wp2
     go_quiet (first | (go_at_call 188;refine Calls.quiet_of_same (CL.out _ _ _)))
     go_wp2
     go_roundw
     case rel=>exact ⟨i+1,_,dj,by go_num,by omega,by omega,hsj,(OUT2.out nq).2,(OUT2.out nq).1⟩
     case measure=>simp [intOf];omega
  ·go_wp2
   go_end0
   exact ⟨rfl,n,by unfold Sort.insertionSort;rw [← hO.out,insOuter_stop _ _ _ _ _ hlt];exact hwr.out⟩
end Srt
namespace Srt
open Go.RowKit Go.Sort
def Count (sb s:Nat) (w:World):Prop:=w.cell? ⟨sb,0,none⟩=some (.int .i64 s)∧w.frozen? ⟨sb,0,none⟩=false
def Two (lo hi sb s:Nat) (w:World) (e:Ending) (w':World):Prop :=
 ∃ x y t:Nat,e=.returned (.tuple #[.int .i64 x,.int .i64 y])∧Hid (lo≤x∧x<hi∧lo≤y∧y<hi∧t≤s+1)∧Count sb t w'∧Below sb w w'
def One (lo hi sb s:Nat) (w:World) (e:Ending) (w':World):Prop :=
 ∃ x t:Nat,e=.returned (.int .i64 x)∧Hid (lo≤x∧x<hi∧t≤s)∧Count sb t w'∧Below sb w w'
theorem holds_below {B blk off:Nat} {d:Array Nat} {w w':World} (h:Holds encN w blk off d) (hb:Below B w w') (hB:blk<B):Holds encN w' blk off d:=fun j hj =>
 ⟨by rw [hb.cell hB];exact (h j hj).1,by rw [hb.frozen hB];exact (h j hj).2⟩
theorem below_drewN (B:Nat) (w:World) (n:Nat):Below B w (w.drewN n):=⟨rfl,rfl,rfl,by simp,fun k _=>by simp⟩
theorem count_set {w:World} {sb s:Nat} (h:Count sb s w) (t:Nat):Count sb t (w.setCell ⟨sb,0,none⟩ (.int .i64 t)):=by
 obtain ⟨c,e,f,h1,h2⟩:=cells_of_cell? h.1
 refine ⟨?_,?_⟩
 ·rw [setCell_eq,cell?_mapBlock _ _ _ _ h1]
  have:0<c.size:=by
   rcases Nat.eq_zero_or_pos c.size with h | h
   ·rw [Array.getElem?_eq_none (by omega)] at h2;cases h2
   ·exact h
  rw [Array.getElem?_setIfInBounds_self_of_lt this]
 ·rw [setCell_eq,frozen?_mapBlock];exact h.2
theorem order2_any (blk off cap sb lo hi a b s:Nat) (d:Array Nat) (w:World) (hH:Holds encN w blk off d) (hab:lo≤a∧a<hi∧lo≤b∧b<hi) (hhi:hi≤d.size) (hs:s≤1000) (hc:Count sb s w) :
  Calls Tryz.prog 199 #[.slice (some ⟨blk,off,none⟩) d.size cap,.int .i64 a,.int .i64 b,.pointer (some ⟨sb,0,none⟩)] w (Two lo hi sb s w):=by
 have CL:=hid less_q
 have HC:=hid hc
 have HAB:=hid hab
 obtain ⟨cs,fs⟩:=hc
 have ha:a<d.size:=by omega
 have hb:b<d.size:=by omega
 have ca:=(hH a ha).1
 have cb:=(hH b hb).1
 have fa:=(hH a ha).2
 have fb:=(hH b hb).2
 generalize d[a]! = x at ca
 generalize d[b]! = y at cb
 clear hH hab
 cases hl:ltN y x
 ·have C:=hid (fun w=>hl ▸ CL.out y x w)
  clear hl
  go_enter Tryz.func199,Tryz.ntmps199
  go_wp2
  go_quiet (first | (go_at_call 188;refine Calls.quiet_of_same (C.out _)))
  go_wp2
  go_ret2
  exact ⟨a,b,s,rfl,by have:=HAB.out;unfold Hid;omega,HC.out,below_drewN _ _ _⟩
 ·have C:=hid (fun w=>hl ▸ CL.out y x w)
  clear hl
  go_enter Tryz.func199,Tryz.ntmps199
  go_wp2
  go_quiet (first | (go_at_call 188;refine Calls.quiet_of_same (C.out _)))
  go_wp2
  go_ret2
  exact ⟨b,a,s+1,rfl,by have:=HAB.out;unfold Hid;omega,count_set (w:=w.drewN nq) HC.out (s+1),RowKit.Below.setCell (below_drewN sb w nq) (p:=⟨sb,0,none⟩) (Nat.le_refl _) _⟩
theorem median_any (blk off cap sb lo hi a b c s:Nat) (d:Array Nat) (w:World) (hH:Holds encN w blk off d) (hab:lo≤a∧a<hi∧lo≤b∧b<hi∧lo≤c∧c<hi) (hhi:hi≤d.size) (hs:s≤100) (hc:Count sb s w) (hblk:blk<sb) :
  Calls Tryz.prog 197 #[.slice (some ⟨blk,off,none⟩) d.size cap,.int .i64 a,.int .i64 b,.int .i64 c,.pointer (some ⟨sb,0,none⟩)] w (One lo hi sb (s+3) w):=by
 have C1:=hid (order2_any blk off cap sb lo hi a b s d w hH (by omega) hhi (by omega) hc)
 have C2:=hid (fun (b s2:Nat) (w1:World) (h:lo≤b∧b<hi) (hs2:s2≤s+1) (hc:Count sb s2 w1) (hb:Below sb w w1)=>order2_any blk off cap sb lo hi b c s2 d w1 (holds_below hH hb hblk) (by omega) hhi (by omega) hc)
 have C3:=hid (fun (a b s2:Nat) (w1:World) (h:lo≤a∧a<hi∧lo≤b∧b<hi) (hs2:s2≤s+2) (hc:Count sb s2 w1) (hb:Below sb w w1)=>order2_any blk off cap sb lo hi a b s2 d w1 (holds_below hH hb hblk) (by omega) hhi (by omega) hc)
 clear hH hab
 go_enter Tryz.func197,Tryz.ntmps197
 go_wp2_with (go_at_call 199;refine (C1.out).mono ?_)
 rintro e w1 ⟨x1,y1,t1,rfl,h1,k1,b1⟩
 go_wp2_with (go_at_call 199;refine (C2.out y1 t1 w1 ⟨h1.out.2.2.1,h1.out.2.2.2.1⟩ h1.out.2.2.2.2 k1 b1).mono ?_)
 rintro e w2 ⟨x2,y2,t2,rfl,h2,k2,b2⟩
 go_wp2_with (go_at_call 199;refine (C3.out x1 x2 t2 w2 ⟨h1.out.1,h1.out.2.1,h2.out.1,h2.out.2.1⟩ (by have:=h1.out;have:=h2.out;omega) k2 (b1.trans b2)).mono ?_)
 rintro e w3 ⟨x3,y3,t3,rfl,h3,k3,b3⟩
 go_wp2
 go_ret
 exact ⟨y3,t3,rfl,by have:=h1.out;have:=h2.out;have:=h3.out;unfold Hid;omega,k3,(b1.trans b2).trans b3⟩
theorem adjacent_any (blk off cap sb lo hi a s:Nat) (d:Array Nat) (w:World) (hH:Holds encN w blk off d) (hab:lo+1≤a∧a+1<hi) (hhi:hi≤d.size) (hsz:d.size<1000000000) (hs:s≤90) (hc:Count sb s w) (hblk:blk<sb) :
  Calls Tryz.prog 196 #[.slice (some ⟨blk,off,none⟩) d.size cap,.int .i64 a,.pointer (some ⟨sb,0,none⟩)] w (One lo hi sb (s+3) w):=by
 have C1:=hid (median_any blk off cap sb lo hi (a - 1) a (a+1) s d w hH (by omega) hhi (by omega) hc hblk)
 rw [show ((a - 1:Nat):Int)=(a:Int) - 1 by omega,show ((a+1:Nat):Int)=(a:Int)+1 by omega] at C1
 clear hH hc
 go_enter Tryz.func196,Tryz.ntmps196
 go_wp2_with (go_at_call 197;refine (C1.out).mono ?_)
 rintro e w1 ⟨x1,t1,rfl,h1,k1,b1⟩
 go_wp2
 go_ret
 exact ⟨x1,t1,rfl,h1,k1,b1⟩
def Chosen (a b:Nat) (w:World) (e:Ending) (w':World):Prop :=
 ∃ (p h:Nat),e=.returned (.tuple #[.int .i64 p,.int .i64 h])∧Hid (a<p∧p<b∧(h=2→p+1<b))∧h≤2∧Below w.heap.size w w'
theorem count_new (w:World) (T:TypeId):Count w.heap.size 0 (w.alloc (Obj.cells #[.int .i64 0] T)) :=
 ⟨by rw [World.cell?_alloc_at _ _ _ _ rfl];rfl,by rw [World.frozen?_alloc_at _ _ _ _ rfl]⟩
theorem choose_short (blk off cap a b:Nat) (d:Array Nat) (w:World) (hH:Holds encN w blk off d) (hab:a+12<b) (hb:b≤d.size) (hl:b<a+50) (hsz:d.size<1000000000) (hblk:blk<w.heap.size) :
  Calls Tryz.prog 185 #[.slice (some ⟨blk,off,none⟩) d.size cap,.int .i64 a,.int .i64 b] w (Chosen a b w):=by
 have hb0:∀ T,RowKit.Below w.heap.size w (w.alloc (Obj.cells #[.int .i64 0] T)):=fun T=>(RowKit.Below.refl _ _).alloc (Nat.le_refl _) _
 have C1:=hid (fun T=>median_any blk off cap w.heap.size (a+1) b (a+(b - a) / 4) (a+(b - a) / 4*2) (a+(b - a) / 4*3) 0 d _ (holds_below hH (hb0 T) hblk) (by omega) hb (by omega) (count_new w T) hblk)
 rw [show ((a+(b - a) / 4:Nat):Int)=(a:Int)+((b:Int) - (a:Int)) / 4 by omega,show ((a+(b - a) / 4*2:Nat):Int)=(a:Int)+((b:Int) - (a:Int)) / 4*2 by omega,show ((a+(b - a) / 4*3:Nat):Int)=(a:Int)+((b:Int) - (a:Int)) / 4*3 by omega] at C1
 have HB:=hid hb0
 clear hH hb0
 go_enter Tryz.func185,Tryz.ntmps185
 go_wp2_with (go_at_call 197;refine (C1.out 3).mono ?_)
 rintro e w1 ⟨x1,t1,rfl,h1,k1,b1⟩
 obtain ⟨k1,k2⟩:=k1
 have ht:t1≤3:=by have:=h1.out;omega
 by_cases h0:t1=0
 ·subst h0
  go_wp2
  go_ret2
  exact ⟨x1,1,rfl,by have:=h1.out;unfold Hid;omega,by omega,(HB.out _).trans b1⟩
 ·have h12:¬ t1=12:=by omega
  go_wp2
  go_ret2
  exact ⟨x1,0,rfl,by have:=h1.out;unfold Hid;omega,by omega,(HB.out _).trans b1⟩
theorem choose_long (blk off cap a b:Nat) (d:Array Nat) (w:World) (hH:Holds encN w blk off d) (hb:b≤d.size) (hl:a+50≤b) (hsz:d.size<1000000000) (hblk:blk<w.heap.size) :
  Calls Tryz.prog 185 #[.slice (some ⟨blk,off,none⟩) d.size cap,.int .i64 a,.int .i64 b] w (Chosen a b w):=by
 have hb0:∀ T,RowKit.Below w.heap.size w (w.alloc (Obj.cells #[.int .i64 0] T)):=fun T=>(RowKit.Below.refl _ _).alloc (Nat.le_refl _) _
 have hH0:∀ W,RowKit.Below w.heap.size w W→Holds encN W blk off d:=fun W h=>holds_below hH h hblk
 have C1:=hid (fun (W:World) (hB:RowKit.Below w.heap.size w W) (s:Nat) (hs:s≤90) (hc:Count w.heap.size s W)=>adjacent_any blk off cap w.heap.size (a+1) (b - 1) (a+(b - a) / 4) s d W (hH0 W hB) (by omega) (by omega) hsz hs hc hblk)
 have C2:=hid (fun (W:World) (hB:RowKit.Below w.heap.size w W) (s:Nat) (hs:s≤90) (hc:Count w.heap.size s W)=>adjacent_any blk off cap w.heap.size (a+1) (b - 1) (a+(b - a) / 4*2) s d W (hH0 W hB) (by omega) (by omega) hsz hs hc hblk)
 have C3:=hid (fun (W:World) (hB:RowKit.Below w.heap.size w W) (s:Nat) (hs:s≤90) (hc:Count w.heap.size s W)=>adjacent_any blk off cap w.heap.size (a+1) (b - 1) (a+(b - a) / 4*3) s d W (hH0 W hB) (by omega) (by omega) hsz hs hc hblk)
 have C4:=hid (fun (W:World) (hB:RowKit.Below w.heap.size w W) (s:Nat) (hs:s≤90) (hc:Count w.heap.size s W) (x y z:Nat) (h:a+1≤x∧x<b - 1∧a+1≤y∧y<b - 1∧a+1≤z∧z<b - 1)=>median_any blk off cap w.heap.size (a+1) (b - 1) x y z s d W (hH0 W hB) h (by omega) (by omega) hc hblk)
 rw [show ((a+(b - a) / 4:Nat):Int)=(a:Int)+((b:Int) - (a:Int)) / 4 by omega] at C1
 rw [show ((a+(b - a) / 4*2:Nat):Int)=(a:Int)+((b:Int) - (a:Int)) / 4*2 by omega] at C2
 rw [show ((a+(b - a) / 4*3:Nat):Int)=(a:Int)+((b:Int) - (a:Int)) / 4*3 by omega] at C3
 have HB:=hid (hb0 3)
 have HC:=hid (count_new w 3)
 clear hH hb0 hH0
 go_enter Tryz.func185,Tryz.ntmps185
 go_wp2_with (go_at_call 196;refine (C1.out _ HB.out 0 (by omega) HC.out).mono ?_)
 rintro e w1 ⟨x1,t1,rfl,h1,k1,b1⟩
 have B1:=hid ((HB.out).trans b1)
 have K1:=hid k1
 clear b1 k1
 go_wp2_with (go_at_call 196;refine (C2.out _ B1.out t1 (by have:=h1.out;omega) K1.out).mono ?_)
 rintro e w2 ⟨x2,t2,rfl,h2,k2,b2⟩
 have B2:=hid ((B1.out).trans b2)
 have K2:=hid k2
 clear b2 k2
 go_wp2_with (go_at_call 196;refine (C3.out _ B2.out t2 (by have:=h1.out;have:=h2.out;omega) K2.out).mono ?_)
 rintro e w3 ⟨x3,t3,rfl,h3,k3,b3⟩
 have B3:=hid ((B2.out).trans b3)
 have K3:=hid k3
 clear b3 k3
 go_wp2_with (go_at_call 197;refine (C4.out _ B3.out t3 (by have:=h1.out;have:=h2.out;have:=h3.out;omega) K3.out x1 x2 x3 (by have:=h1.out;have:=h2.out;have:=h3.out;omega)).mono ?_)
 rintro e w4 ⟨x4,t4,rfl,h4,k4,b4⟩
 have B4:=hid ((B3.out).trans b4)
 clear b4
 obtain ⟨k4,k5⟩:=k4
 by_cases h0:t4=0
 ·subst h0
  go_wp2
  go_ret2
  exact ⟨x4,1,rfl,by have:=h4.out;unfold Hid;omega,by omega,B4.out⟩
 ·by_cases h12:t4=12
  ·subst h12
   go_wp2
   go_ret2
   exact ⟨x4,2,rfl,by have:=h4.out;unfold Hid;omega,by omega,B4.out⟩
  ·go_wp2
   go_ret2
   exact ⟨x4,0,rfl,by have:=h4.out;unfold Hid;omega,by omega,B4.out⟩
theorem choose_any (blk off cap a b:Nat) (d:Array Nat) (w:World) (hH:Holds encN w blk off d) (hab:a+12<b) (hb:b≤d.size) (hsz:d.size<1000000000) (hblk:blk<w.heap.size) :
  Calls Tryz.prog 185 #[.slice (some ⟨blk,off,none⟩) d.size cap,.int .i64 a,.int .i64 b] w (Chosen a b w):=by
 by_cases h:b<a+50
 ·exact choose_short blk off cap a b d w hH hab hb h hsz hblk
 ·exact choose_long blk off cap a b d w hH hb (by omega) hsz hblk
end Srt
namespace Srt
open Go.RowKit Go.Sort
def Tried (blk off a b:Nat) (d:Array Nat) (w:World) (e:Ending) (w':World):Prop :=
 ∃ r:Bool,e=.returned (.bool r)∧Hid (r=true→SortedIn ltN a b d)∧∃ n,w'=putRow encN (Sort.ahead w n) blk off d
theorem sorted_of_steps {d:Array Nat} {a b:Nat} (h:∀ k,a<k→k<b→ltN d[k]! d[k - 1]! = false):SortedIn ltN a b d:=by
 intro i j hi hij hj
 have hn:∀ n,i+n<b→d[i]!≤d[i+n]!:=by
  intro n
  induction n with
  | zero=>intro _;exact Nat.le_refl _
  | succ n ih =>
   intro hb
   have h1:=ih (by omega)
   have h2:=h (i+(n+1)) (by omega) hb
   rw [show i+(n+1) - 1=i+n by omega] at h2
   unfold ltN at h2
   have h3:¬ d[i+(n+1)]!<d[i+n]!:=by simpa using h2
   omega
 have:=hn (j - i) (by omega)
 rw [show i+(j - i)=j by omega] at this
 unfold ltN
 simpa using this
theorem partial_any (blk off cap a b:Nat) (d:Array Nat) (w:World) (hH:Holds encN w blk off d) (hab:a<b) (hb:b≤d.size) (hl:b<a+50) (hsz:d.size<1000000000) :
  Calls Tryz.prog 187 #[.slice (some ⟨blk,off,none⟩) d.size cap,.int .i64 a,.int .i64 b] w (Tried blk off a b d w):=by
 have HH:=hid hH
 have CL:=hid less_q
 clear hH
 go_enter Tryz.func187,Tryz.ntmps187
 go_wp2
 refine wp_loop_rounds 1 ?_
 rw [rounds_succ]
 go_wp2
 go_loopw [7] (fun vi wr=>∃ (i m:Nat),vi=.int .i64 i∧a<i∧i≤b∧Hid (wr=putRow encN (Sort.ahead w m) blk off d)∧Hid (∀ k,a<k→k<i→ltN d[k]! d[k - 1]! = false)) (fun vi _=>b+1 - (intOf vi).toNat)
 case atStart=>exact ⟨a+1,0,by go_num,by omega,by omega,(putRow_self _ _ _ _ _ HH.out).symm,fun k h1 h2=>by omega⟩
 case round =>
  obtain ⟨i,m,rfl,hai,hib,hw,hR⟩:=hrel
  obtain ⟨G,hG,hcw,hfw⟩:=row_facts HH.out rfl hw.out
  have HG:=hid hG
  clear hG
  have HX:=hid (fun q=>show wr.drewN q=putRow encN (Sort.ahead w (m+q)) blk off d by rw [hw.out];exact putRow_drewN _ _ _ _ _ _ _)
  by_cases hlt:i<b
  ·have j0:i<d.size:=by omega
   have j1:i - 1<d.size:=by omega
   have hne:¬ i=b:=by omega
   cases hg:ltN (G i) (G (i - 1))
   ·have C:=hid (fun w=>hg ▸ CL.out (G i) (G (i - 1)) w)
    have GO:=hid (show ∀ k,a<k→k<i+1→ltN d[k]! d[k - 1]! = false from fun k h1 h2=>by
     by_cases hk:k<i
     ·exact hR.out k h1 hk
     ·rw [show k=i by omega,← HG.out,← HG.out];exact hg)
    clear hg
    go_wp2
    go_quiet (first | (go_at_call 188;refine Calls.quiet_of_same (C.out _)))
    go_wp2
    go_roundw
    case rel=>exact ⟨i+1,m+nq,by go_num,by omega,by omega,HX.out _,GO.out⟩
    case measure=>simp [intOf];omega
   ·have C:=hid (fun w=>hg ▸ CL.out (G i) (G (i - 1)) w)
    clear hg
    go_wp2
    go_quiet (first | (go_at_call 188;refine Calls.quiet_of_same (C.out _)))
    go_wp2
    go_ret
    exact ⟨false,rfl,hid (fun h=>absurd h (by simp)),_,HX.out nq⟩
  ·have hib2:i=b:=by omega
   have hd:decide ((i:Int)<(b:Int))=false:=by simp;omega
   have DN:=hid (show SortedIn ltN a b d from sorted_of_steps (hib2 ▸ hR.out))
   subst hib2
   go_wp2
   go_quiet (first | (go_at_call 188;refine Calls.quiet_of_same (CL.out _ _ _)))
   go_wp2
   go_ret
   exact ⟨true,rfl,fun _=>DN.out,_,HX.out nq⟩
end Srt
end Go.Proofs.YtjfmompgkkdliaaGreatDoor
