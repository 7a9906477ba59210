/- Part of the proof. -/
import Derived.Test.YtjfmompgkkdliaaGreatDoorH26
import Derived.Sort.LotB
import Derived.BigRegion
open Go.Lib (hid)
set_option maxRecDepth 100000
set_option maxHeartbeats 40000000
namespace Go.Proofs.YtjfmompgkkdliaaGreatDoor
namespace Srt
open Go.RowKit Go.Sort
theorem reverse_go {i j:Nat} {d:Array Nat} (h:i<j):reverseLoop i j d=reverseLoop (i+1) (j - 1) (swp d i j):=by rw [reverseLoop,if_pos h]
theorem reverse_stop {i j:Nat} {d:Array Nat} (h:¬ i<j):reverseLoop i j d=d:=by rw [reverseLoop,if_neg h]
theorem reverse_any (blk off cap a b:Nat) (d:Array Nat) (w:World) (hH:Holds encN w blk off d) (hab:a<b) (hb:b≤d.size) (hsz:d.size<4611686018427387904) :
  Calls Tryz.prog 186 #[.slice (some ⟨blk,off,none⟩) d.size cap,.int .i64 a,.int .i64 b] w (Puts blk off (Sort.reverseRange d a b) w):=by
 have HH:=hid hH
 clear hH
 go_enter Tryz.func186,Tryz.ntmps186
 go_wp2
 go_loopw [6,7] (fun vi vj wr=>∃ (i j m:Nat) (dk:Array Nat),vi=.int .i64 i∧vj=.int .i64 j∧i≤d.size∧j<b∧dk.size=d.size∧Hid (wr=putRow encN (Sort.ahead w m) blk off dk)∧Hid (reverseLoop i j dk=reverseLoop a (b - 1) d)) (fun vi vj _=>(intOf vj).toNat+1 - (intOf vi).toNat)
 case atStart=>exact ⟨a,b - 1,0,d,rfl,by congr 1;omega,by omega,by omega,rfl,(putRow_self _ _ _ _ _ HH.out).symm,rfl⟩
 case round =>
  obtain ⟨i,j,m,dk,rfl,rfl,hi,hj,hs,hw,hR⟩:=hrel
  by_cases hlt:i<j
  ·obtain ⟨G,hG,hcw,hfw⟩:=row_facts HH.out hs hw.out
   have HG:=hid hG
   clear hG
   have hi2:i<d.size:=by omega
   have hj2:j<d.size:=by omega
   have GO:=hid (show reverseLoop (i+1) (j - 1) (swp dk i j)=reverseLoop a (b - 1) d by rw [← hR.out,← reverse_go hlt])
   go_wp2
   go_region
   all_goals go_wp2
   go_roundw
   case rel=>exact ⟨i+1,j - 1,_,swp dk i j,by go_num,by congr 1;omega,by omega,by omega,by rw [size_swp];exact hs,by
    unfold Hid
    rw [hw.out,HG.out,HG.out]
    exact swap_worldA _ w m 1 blk off dk i j (by omega) (by omega),GO.out⟩
   case measure=>simp [intOf];omega
  ·have GO:=hid (show dk=Sort.reverseRange d a b by unfold Sort.reverseRange;rw [← hR.out,reverse_stop hlt])
   go_wp2
   go_end0
   exact ⟨rfl,m,by rw [← GO.out];exact hw.out⟩
def childN (hi F r:Nat) (d:Array Nat):Nat:=if 2*r+2<hi∧ltN d[F+(2*r+1)]! d[F+(2*r+1)+1]! = true then 2*r+2 else 2*r+1
theorem child_two {hi F r:Nat} {d:Array Nat} (h:2*r+2<hi) (hl:ltN d[F+(2*r+1)]! d[F+(2*r+1)+1]! = true):childN hi F r d=2*r+2:=if_pos ⟨h,hl⟩
theorem child_one {hi F r:Nat} {d:Array Nat} (h:¬ (2*r+2<hi∧ltN d[F+(2*r+1)]! d[F+(2*r+1)+1]! = true)):childN hi F r d=2*r+1:=if_neg h
theorem sift_stop {hi F r:Nat} {d:Array Nat} (h:¬ 2*r+1<hi):siftDown ltN hi F r d=d:=by rw [siftDown,dif_pos (by omega)]
theorem sift_done {hi F r:Nat} {d:Array Nat} (h:2*r+1<hi) (hl:ltN d[F+r]! d[F+childN hi F r d]! = false):siftDown ltN hi F r d=d:=by
 rw [siftDown,dif_neg (by omega)]
 by_cases hc:2*r+2<hi∧ltN d[F+(2*r+1)]! d[F+(2*r+1)+1]! = true
 ·rw [child_two hc.1 hc.2] at hl
  rw [if_pos (by simp [hc.2];exact hc.1),if_pos (by simp [hl])]
 ·rw [child_one hc] at hl
  rw [if_neg (by simpa using hc),if_pos (by simp [hl])]
theorem sift_go {hi F r:Nat} {d:Array Nat} (h:2*r+1<hi) (hl:ltN d[F+r]! d[F+childN hi F r d]! = true):siftDown ltN hi F r d=siftDown ltN hi F (childN hi F r d) (swp d (F+r) (F+childN hi F r d)):=by
 rw [siftDown,dif_neg (by omega)]
 by_cases hc:2*r+2<hi∧ltN d[F+(2*r+1)]! d[F+(2*r+1)+1]! = true
 ·rw [child_two hc.1 hc.2] at hl ⊢
  rw [if_pos (by simp [hc.2];exact hc.1),if_neg (by simp [hl]),dif_pos hc.1]
 ·rw [child_one hc] at hl ⊢
  rw [if_neg (by simpa using hc),if_neg (by simp [hl])]
theorem sift_any (blk off cap lo hi F:Nat) (d:Array Nat) (w:World) (hH:Holds encN w blk off d) (hF:F+hi≤d.size) (hsz:d.size<1000000000) (hlo:lo≤d.size) :
  Calls Tryz.prog 193 #[.slice (some ⟨blk,off,none⟩) d.size cap,.int .i64 lo,.int .i64 hi,.int .i64 F] w (Puts blk off (Sort.siftDown ltN hi F lo d) w):=by
 have HH:=hid hH
 have CL:=hid less_q
 clear hH
 go_enter Tryz.func193,Tryz.ntmps193
 go_wp2
 go_loopw [8,9] (fun vr _ wr=>∃ (r m:Nat) (dk:Array Nat),vr=.int .i64 r∧r≤d.size∧dk.size=d.size∧Hid (wr=putRow encN (Sort.ahead w m) blk off dk)∧Hid (siftDown ltN hi F r dk=siftDown ltN hi F lo d)) (fun vr _ _=>d.size+1 - (intOf vr).toNat)
 case atStart=>exact ⟨lo,0,d,rfl,hlo,rfl,(putRow_self _ _ _ _ _ HH.out).symm,rfl⟩
 case round =>
  obtain ⟨r,m,dk,rfl,hr,hs,hw,hR⟩:=hrel
  by_cases h1:2*r+1<hi
  ·obtain ⟨G,hG,hcw,hfw⟩:=row_facts HH.out hs hw.out
   have HG:=hid hG
   clear hG
   have j0:F+r<d.size:=by omega
   have j1:F+(2*r+1)<d.size:=by omega
   by_cases h2:2*r+2<hi
   ·have j2:F+(2*r+2)<d.size:=by omega
    have h2z:2*(r:Int)+1+1<(hi:Int):=by omega
    cases hg:ltN (G (F+(2*r+1))) (G (F+(2*r+1)+1))
    ·have HC:=hid (child_one (hi:=hi) (F:=F) (r:=r) (d:=dk) (fun h=>by rw [← HG.out,← HG.out,hg] at h;exact absurd h.2 (by simp)))
     have C1:=hid (fun w=>hg ▸ CL.out (G (F+(2*r+1))) (G (F+(2*r+1)+1)) w)
     clear hg
     cases hl:ltN (G (F+r)) (G (F+(2*r+1)))
     ·have DN:=hid (show dk=siftDown ltN hi F lo d by rw [← hR.out,sift_done h1 (by rw [HC.out,← HG.out,← HG.out];exact hl)])
      have C2:=hid (fun w=>hl ▸ CL.out (G (F+r)) (G (F+(2*r+1))) w)
      clear hl
      go_wp2
      go_big_quiet (first | (go_at_call 188;refine Calls.quiet_of_same (C1.out _)))
      go_wp2
      have hcw2:∀ t,t<d.size→(wr.drewN nq).cell? ⟨blk,off+t,none⟩=some (.int .u32 (G t)):=hcw
      have hfw2:∀ t,t<d.size→(wr.drewN nq).frozen? ⟨blk,off+t,none⟩=false:=hfw
      have HW2:=hid (show wr.drewN nq=putRow encN (Sort.ahead w (m+nq)) blk off dk by rw [hw.out];exact putRow_drewN _ _ _ _ _ _ _)
      clear hcw hfw
      generalize wr.drewN nq=wr2 at hcw2 hfw2 HW2 ⊢
      go_big_quiet (first | (go_at_call 188;refine Calls.quiet_of_same (C2.out _)))
      go_wp2
      refine bodyPost_ret (results_none rfl _ _ _) rfl ?_
      exact ⟨rfl,_,by rw [HW2.out,DN.out];exact putRow_drewN _ _ _ _ _ _ _⟩
     ·have GO:=hid (show siftDown ltN hi F (2*r+1) (swp dk (F+r) (F+(2*r+1)))=siftDown ltN hi F lo d by
       have:=sift_go h1 (show ltN dk[F+r]! dk[F+childN hi F r dk]! = true by rw [HC.out,← HG.out,← HG.out];exact hl)
       rw [HC.out] at this
       rw [← hR.out,this])
      have C2:=hid (fun w=>hl ▸ CL.out (G (F+r)) (G (F+(2*r+1))) w)
      clear hl
      go_wp2
      go_big_quiet (first | (go_at_call 188;refine Calls.quiet_of_same (C1.out _)))
      go_wp2
      have hcw2:∀ t,t<d.size→(wr.drewN nq).cell? ⟨blk,off+t,none⟩=some (.int .u32 (G t)):=hcw
      have hfw2:∀ t,t<d.size→(wr.drewN nq).frozen? ⟨blk,off+t,none⟩=false:=hfw
      have HW2:=hid (show wr.drewN nq=putRow encN (Sort.ahead w (m+nq)) blk off dk by rw [hw.out];exact putRow_drewN _ _ _ _ _ _ _)
      clear hcw hfw
      generalize wr.drewN nq=wr2 at hcw2 hfw2 HW2 ⊢
      go_big_quiet (first | (go_at_call 188;refine Calls.quiet_of_same (C2.out _)))
      go_wp2
      go_region
      all_goals go_wp2
      go_roundw
      case rel=>exact ⟨2*r+1,_,swp dk (F+r) (F+(2*r+1)),by go_num,by omega,by rw [size_swp];exact hs,by
       unfold Hid
       rw [HW2.out,HG.out,HG.out]
       exact swap_worldA _ w _ _ blk off dk (F+r) (F+(2*r+1)) (by omega) (by omega),GO.out⟩
      case measure=>simp [intOf];omega
    ·have HC:=hid (child_two (hi:=hi) (F:=F) (r:=r) (d:=dk) h2 (by rw [← HG.out,← HG.out];exact hg))
     have C1:=hid (fun w=>hg ▸ CL.out (G (F+(2*r+1))) (G (F+(2*r+1)+1)) w)
     clear hg
     cases hl:ltN (G (F+r)) (G (F+(2*r+2)))
     ·have DN:=hid (show dk=siftDown ltN hi F lo d by rw [← hR.out,sift_done h1 (by rw [HC.out,← HG.out,← HG.out];exact hl)])
      have C2:=hid (fun w=>hl ▸ CL.out (G (F+r)) (G (F+(2*r+2))) w)
      clear hl
      go_wp2
      go_big_quiet (first | (go_at_call 188;refine Calls.quiet_of_same (C1.out _)))
      go_wp2
      have hcw2:∀ t,t<d.size→(wr.drewN nq).cell? ⟨blk,off+t,none⟩=some (.int .u32 (G t)):=hcw
      have hfw2:∀ t,t<d.size→(wr.drewN nq).frozen? ⟨blk,off+t,none⟩=false:=hfw
      have HW2:=hid (show wr.drewN nq=putRow encN (Sort.ahead w (m+nq)) blk off dk by rw [hw.out];exact putRow_drewN _ _ _ _ _ _ _)
      clear hcw hfw
      generalize wr.drewN nq=wr2 at hcw2 hfw2 HW2 ⊢
      go_big_quiet (first | (go_at_call 188;refine Calls.quiet_of_same (C2.out _)))
      go_wp2
      refine bodyPost_ret (results_none rfl _ _ _) rfl ?_
      exact ⟨rfl,_,by rw [HW2.out,DN.out];exact putRow_drewN _ _ _ _ _ _ _⟩
     ·have GO:=hid (show siftDown ltN hi F (2*r+2) (swp dk (F+r) (F+(2*r+2)))=siftDown ltN hi F lo d by
       have:=sift_go h1 (show ltN dk[F+r]! dk[F+childN hi F r dk]! = true by rw [HC.out,← HG.out,← HG.out];exact hl)
       rw [HC.out] at this
       rw [← hR.out,this])
      have C2:=hid (fun w=>hl ▸ CL.out (G (F+r)) (G (F+(2*r+2))) w)
      clear hl
      go_wp2
      go_big_quiet (first | (go_at_call 188;refine Calls.quiet_of_same (C1.out _)))
      go_wp2
      have hcw2:∀ t,t<d.size→(wr.drewN nq).cell? ⟨blk,off+t,none⟩=some (.int .u32 (G t)):=hcw
      have hfw2:∀ t,t<d.size→(wr.drewN nq).frozen? ⟨blk,off+t,none⟩=false:=hfw
      have HW2:=hid (show wr.drewN nq=putRow encN (Sort.ahead w (m+nq)) blk off dk by rw [hw.out];exact putRow_drewN _ _ _ _ _ _ _)
      clear hcw hfw
      generalize wr.drewN nq=wr2 at hcw2 hfw2 HW2 ⊢
      go_big_quiet (first | (go_at_call 188;refine Calls.quiet_of_same (C2.out _)))
      go_wp2
      go_region
      all_goals go_wp2
      go_roundw
      case rel=>exact ⟨2*r+2,_,swp dk (F+r) (F+(2*r+2)),by go_num,by omega,by rw [size_swp];exact hs,by
       unfold Hid
       rw [HW2.out,HG.out,HG.out]
       exact swap_worldA _ w _ _ blk off dk (F+r) (F+(2*r+2)) (by omega) (by omega),GO.out⟩
      case measure=>simp [intOf];omega
   ·have HC:=hid (child_one (hi:=hi) (F:=F) (r:=r) (d:=dk) (fun h=>h2 h.1))
    have hd0:¬ (2*(r:Int)+1+1<(hi:Int)):=by omega
    have hd:decide (2*(r:Int)+1+1<(hi:Int))=false:=decide_eq_false hd0
    have C1:=hid (fun w=>CL.out (G (F+(2*r+1))) (G (F+(2*r+1)+1)) w)
    cases hl:ltN (G (F+r)) (G (F+(2*r+1)))
    ·have DN:=hid (show dk=siftDown ltN hi F lo d by rw [← hR.out,sift_done h1 (by rw [HC.out,← HG.out,← HG.out];exact hl)])
     have C2:=hid (fun w=>hl ▸ CL.out (G (F+r)) (G (F+(2*r+1))) w)
     clear hl
     go_wp2
     go_big_quiet (first | (go_at_call 188;refine Calls.quiet_of_same (C1.out _)))
     go_wp2
     have hcw2:∀ t,t<d.size→(wr.drewN nq).cell? ⟨blk,off+t,none⟩=some (.int .u32 (G t)):=hcw
     have hfw2:∀ t,t<d.size→(wr.drewN nq).frozen? ⟨blk,off+t,none⟩=false:=hfw
     have HW2:=hid (show wr.drewN nq=putRow encN (Sort.ahead w (m+nq)) blk off dk by rw [hw.out];exact putRow_drewN _ _ _ _ _ _ _)
     clear hcw hfw
     generalize wr.drewN nq=wr2 at hcw2 hfw2 HW2 ⊢
     go_big_quiet (first | (go_at_call 188;refine Calls.quiet_of_same (C2.out _)))
     go_wp2
     refine bodyPost_ret (results_none rfl _ _ _) rfl ?_
     exact ⟨rfl,_,by rw [HW2.out,DN.out];exact putRow_drewN _ _ _ _ _ _ _⟩
    ·have GO:=hid (show siftDown ltN hi F (2*r+1) (swp dk (F+r) (F+(2*r+1)))=siftDown ltN hi F lo d by
      have:=sift_go h1 (show ltN dk[F+r]! dk[F+childN hi F r dk]! = true by rw [HC.out,← HG.out,← HG.out];exact hl)
      rw [HC.out] at this
      rw [← hR.out,this])
     have C2:=hid (fun w=>hl ▸ CL.out (G (F+r)) (G (F+(2*r+1))) w)
     clear hl
     go_wp2
     go_big_quiet (first | (go_at_call 188;refine Calls.quiet_of_same (C1.out _)))
     go_wp2
     have hcw2:∀ t,t<d.size→(wr.drewN nq).cell? ⟨blk,off+t,none⟩=some (.int .u32 (G t)):=hcw
     have hfw2:∀ t,t<d.size→(wr.drewN nq).frozen? ⟨blk,off+t,none⟩=false:=hfw
     have HW2:=hid (show wr.drewN nq=putRow encN (Sort.ahead w (m+nq)) blk off dk by rw [hw.out];exact putRow_drewN _ _ _ _ _ _ _)
     clear hcw hfw
     generalize wr.drewN nq=wr2 at hcw2 hfw2 HW2 ⊢
     go_big_quiet (first | (go_at_call 188;refine Calls.quiet_of_same (C2.out _)))
     go_wp2
     go_region
     all_goals go_wp2
     go_roundw
     case rel=>exact ⟨2*r+1,_,swp dk (F+r) (F+(2*r+1)),by go_num,by omega,by rw [size_swp];exact hs,by
      unfold Hid
      rw [HW2.out,HG.out,HG.out]
      exact swap_worldA _ w _ _ blk off dk (F+r) (F+(2*r+1)) (by omega) (by omega),GO.out⟩
     case measure=>simp [intOf];omega
  ·have DN:=hid (show dk=siftDown ltN hi F lo d by rw [← hR.out,sift_stop h1])
   go_wp2
   refine bodyPost_ret (results_none rfl _ _ _) rfl ?_
   exact ⟨rfl,m,by rw [← DN.out];exact hw.out⟩
end Srt
namespace Srt
open Go.RowKit Go.Sort
theorem size_sift (hi F r:Nat) (d:Array Nat):(siftDown ltN hi F r d).size=d.size:=by
 fun_induction siftDown ltN hi F r d <;> simp_all [size_swp]
theorem half_way {a b:Nat} (h:a≤b):((b:Int) - (a:Int) - 1).tdiv 2=(((b - a - 1) / 2+1:Nat):Int) - 1:=by
 rcases Nat.lt_or_ge a b with h1 | h1
 ·rw [Int.tdiv_eq_ediv_of_nonneg (by omega)];omega
 ·rw [show ((b:Int) - (a:Int) - 1)=-1 by omega,show (b - a - 1) / 2+1=1 by omega];rfl
theorem build_go {hi F k:Nat} {d:Array Nat} (h:0<k):heapBuild ltN hi F k d=heapBuild ltN hi F (k - 1) (siftDown ltN hi F (k - 1) d):=by
 cases k with
 | zero=>omega
 | succ k=>rfl
theorem pop_go {F k:Nat} {d:Array Nat} (h:0<k):heapPop ltN F k d=heapPop ltN F (k - 1) (siftDown ltN (k - 1) F 0 (swp d F (F+(k - 1)))):=by
 cases k with
 | zero=>omega
 | succ k=>rfl
theorem heap_any (blk off cap a b:Nat) (d:Array Nat) (w:World) (hH:Holds encN w blk off d) (hab:a≤b) (hb:b≤d.size) (hsz:d.size<1000000000) :
  Calls Tryz.prog 183 #[.slice (some ⟨blk,off,none⟩) d.size cap,.int .i64 a,.int .i64 b] w (Puts blk off (Sort.heapSort ltN d a b) w):=by
 have HH:=hid hH
 have CS:=hid (fun (lo hi:Nat) (dk:Array Nat) (wr:World) (h1:Holds encN wr blk off dk) (hs:dk.size=d.size) (h2:a+hi≤d.size) (h3:lo≤d.size)=>hs ▸ sift_any blk off cap lo hi a dk wr h1 (by omega) (by omega) (by omega))
 have HS:=hid (half_way hab)
 clear hH
 go_enter Tryz.func183,Tryz.ntmps183
 go_wp2
 go_loopw [9] (fun vi wr=>∃ (k m:Nat) (dk:Array Nat),vi=.int .i64 ((k:Int) - 1)∧k≤d.size+1∧Hid (k - 1≤d.size)∧dk.size=d.size∧Hid (wr=putRow encN (Sort.ahead w m) blk off dk)∧Hid (heapBuild ltN (b - a) a k dk=heapBuild ltN (b - a) a ((b - a - 1) / 2+1) d)) (fun vi _=>(intOf vi+1).toNat)
 case atStart=>exact ⟨(b - a - 1) / 2+1,0,d,by rw [← HS.out],by omega,by unfold Hid;omega,rfl,(putRow_self _ _ _ _ _ HH.out).symm,rfl⟩
 case round =>
  obtain ⟨k,m,dk,rfl,hk,hk1,hs,hw,hR⟩:=hrel
  have HK:=hid (show Holds encN wr blk off dk by rw [hw.out];exact holds_putRow _ _ _ _ _ _ (holds_ahead _ _ _ _ _ _ HH.out) hs)
  by_cases h0:0<k
  ·obtain ⟨i,rfl⟩:∃ i,k=i+1:=⟨k - 1,by omega⟩
   rw [show (((i+1:Nat):Int) - 1)=(i:Int) by omega]
   have C1:=hid (CS.out i (b - a) dk wr HK.out hs (by omega) (by have:=hk1.out;omega))
   rw [show (((b - a:Nat):Int))=(b:Int) - (a:Int) by omega] at C1
   have GO:=hid (build_go (hi:=b - a) (F:=a) (d:=dk) h0)
   go_wp2_with (go_at_call 193;refine (C1.out).mono ?_;rintro e w1 ⟨rfl,q,hq⟩;have H1:=hid hq;clear hq)
   go_roundw
   case rel=>exact ⟨i,m+q,siftDown ltN (b - a) a i dk,rfl,by omega,by unfold Hid;omega,by rw [size_sift];exact hs,by
    unfold Hid
    rw [H1.out,hw.out]
    exact putRow_ahead_putRow _ _ _ _ _ _ _ _ (size_sift _ _ _ _),by unfold Hid;rw [← hR.out];exact GO.out.symm⟩
   case measure=>simp [intOf] <;> omega
  ·have hk0:k=0:=by omega
   subst hk0
   have hBk:=hid (show dk=heapBuild ltN (b - a) a ((b - a - 1) / 2+1) d from hR.out)
   clear h0 hk hk1
   rw [show (((0:Nat):Int) - 1)=-1 from rfl]
   go_wp2
   go_loopw [10] (fun vi wr=>∃ (k m:Nat) (dq:Array Nat),vi=.int .i64 ((k:Int) - 1)∧k≤b - a∧dq.size=d.size∧Hid (wr=putRow encN (Sort.ahead w m) blk off dq)∧Hid (heapPop ltN a k dq=heapPop ltN a (b - a) dk)) (fun vi _=>(intOf vi+1).toNat)
   case atStart=>exact ⟨b - a,m,dk,by congr 1;omega,by omega,hs,hw,rfl⟩
   case round =>
    clear HK hw hs
    obtain ⟨k,m2,dq,rfl,hk,hs,hw,hP⟩:=hrel
    by_cases h0:0<k
    ·obtain ⟨G,hG,hcw,hfw⟩:=row_facts HH.out hs hw.out
     have HG:=hid hG
     clear hG
     obtain ⟨i,rfl⟩:∃ i,k=i+1:=⟨k - 1,by omega⟩
     rw [show (((i+1:Nat):Int) - 1)=(i:Int) by omega]
     have j1:a<d.size:=by omega
     have j2:a+i<d.size:=by omega
     have GO:=hid (pop_go (F:=a) (d:=dq) h0)
     have HQ:=hid (fun (wx:World) (x:Nat) (hx:wx=putRow encN (Sort.ahead w x) blk off (swp dq a (a+i)))=>show Holds encN wx blk off (swp dq a (a+i)) by rw [hx];exact holds_putRow _ _ _ _ _ _ (holds_ahead _ _ _ _ _ _ HH.out) (by rw [size_swp];exact hs))
     have C1:=hid (fun (wx:World) (x:Nat) (hx:wx=putRow encN (Sort.ahead w x) blk off (swp dq a (a+i)))=>CS.out 0 i (swp dq a (a+i)) wx (HQ.out wx x hx) (by rw [size_swp];exact hs) (by omega) (by omega))
     have HX:=hid (fun (q:Nat)=>show ((wr.drewN q).setCell ⟨blk,off+a,none⟩ (.int .u32 (G (a+i)))).setCell ⟨blk,off+(a+i),none⟩ (.int .u32 (G a))=putRow encN (Sort.ahead w (m2+q)) blk off (swp dq a (a+i)) by
      rw [hw.out,HG.out,HG.out]
      exact swap_worldA _ w m2 q blk off dq a (a+i) (by omega) (by omega))
     by_cases hi0:i=0
     ·subst hi0
      go_wp2
      go_region
      all_goals go_wp2_with (go_at_call 193;refine (C1.out _ _ (HX.out 1)).mono ?_;rintro e w1 ⟨rfl,q,hq⟩;have H1:=hid hq;clear hq)
      go_roundw
      case rel=>exact ⟨0,m2+1+q,siftDown ltN 0 a 0 (swp dq a (a+0)),rfl,by omega,by rw [size_sift,size_swp];exact hs,by
       unfold Hid
       rw [H1.out,HX.out]
       exact putRow_ahead_putRow _ _ _ _ _ _ _ _ (size_sift _ _ _ _),by unfold Hid;rw [← hP.out];exact GO.out.symm⟩
      case measure=>simp [intOf] <;> omega
     ·have hne:a≠a+i:=by omega
      go_wp2
      go_region
      all_goals go_wp2_with (go_at_call 193;refine (C1.out _ _ (HX.out 1)).mono ?_;rintro e w1 ⟨rfl,q,hq⟩;have H1:=hid hq;clear hq)
      go_roundw
      case rel=>exact ⟨i,m2+1+q,siftDown ltN i a 0 (swp dq a (a+i)),rfl,by omega,by rw [size_sift,size_swp];exact hs,by
       unfold Hid
       rw [H1.out,HX.out]
       exact putRow_ahead_putRow _ _ _ _ _ _ _ _ (size_sift _ _ _ _),by unfold Hid;rw [← hP.out];exact GO.out.symm⟩
      case measure=>simp [intOf] <;> omega
    ·have hk0:k=0:=by omega
     subst hk0
     have DN:=hid (show dq=Sort.heapSort ltN d a b by unfold Sort.heapSort;rw [← hBk.out,← hP.out];rfl)
     clear h0
     go_wp2
     go_end0
     exact ⟨rfl,m2,by rw [← DN.out];exact hw.out⟩
end Srt
end Go.Proofs.YtjfmompgkkdliaaGreatDoor
