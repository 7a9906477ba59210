/- Part of the proof. -/
import Derived.Test.YtjfmompgkkdliaaGreatDoorH26
import Derived.Sort.WalkC
import Derived.Sort.WalkC4
open Go.Lib (hid)
set_option maxRecDepth 100000
set_option maxHeartbeats 40000000
namespace Go.Proofs.YtjfmompgkkdliaaGreatDoor
namespace Srt
open Go.RowKit Go.Sort
def Gave (blk off:Nat) (r:Nat) (d':Array Nat) (w:World) (e:Ending) (w':World):Prop:=e=.returned (.int .i64 r)∧∃ n,w'=putRow encN (Sort.ahead w n) blk off d'
theorem equal_part (blk off cap a b pivot:Nat) (d:Array Nat) (w:World) (hH:Holds encN w blk off d) (hap:a<pivot) (hpb:pivot<b) (hb:b≤d.size) (hsz:d.size<1000000000) :
  Calls Tryz.prog 189 #[.slice (some ⟨blk,off,none⟩) d.size cap,.int .i64 a,.int .i64 b,.int .i64 pivot] w (Gave blk off (partitionEqual ltN d a b pivot).1 (partitionEqual ltN d a b pivot).2 w):=by
 have HH:=hid hH
 have CL:=hid less_q
 clear hH
 obtain ⟨G,hG,hcw,hfw⟩:=row_facts (m:=0) (dk:=d) HH.out rfl (show w=putRow encN (Sort.ahead w 0) blk off d from (putRow_self _ _ _ _ _ HH.out).symm)
 have ja:a<d.size:=by omega
 have jp:pivot<d.size:=by omega
 have HG:=hid hG
 have HX:=hid (show ((w.drewN 1).setCell ⟨blk,off+a,none⟩ (.int .u32 (G pivot))).setCell ⟨blk,off+pivot,none⟩ (.int .u32 (G a))=putRow encN (Sort.ahead w 1) blk off (swp d a pivot) by
  rw [HG.out,HG.out]
  have:=swap_worldA encN w 0 1 blk off d a pivot (by omega) (by omega)
  rw [show putRow encN (Sort.ahead w 0) blk off d=w from putRow_self _ _ _ _ _ HH.out] at this
  exact this)
 clear hG HG
 go_enter Tryz.func189,Tryz.ntmps189
 have hne:a≠pivot:=by omega
 go_wp2
 go_region
 all_goals go_wp2
 go_loopw [9,10] (fun vi vj wr=>∃ (i j m:Nat) (dk:Array Nat),vi=.int .i64 i∧vj=.int .i64 j∧a<i∧i≤j+1∧j<b∧dk.size=d.size∧Hid (wr=putRow encN (Sort.ahead w m) blk off dk)∧Hid (partEqLoop ltN a i j dk=partEqLoop ltN a (a+1) (b - 1) (swp d a pivot))) (fun vi vj _=>(intOf vj).toNat+1 - (intOf vi).toNat)
 case atStart=>exact ⟨a+1,b - 1,1,swp d a pivot,by go_num,by congr 1;omega,by omega,by omega,by omega,by rw [size_swp],HX.out,rfl⟩
 case round =>
  obtain ⟨i,j,m,dk,rfl,rfl,hai,hij,hjb,hs,hw,hR⟩:=hrel
  go_wp2
  go_loopw [9] (fun vv wr=>∃ (i2 mi2:Nat),vv=.int .i64 i2∧i≤i2∧i2≤j+1∧Hid (wr=putRow encN (Sort.ahead w mi2) blk off dk)∧Hid (scanUp (fun x=>!ltN dk[a]! x) dk j (i2)=scanUp (fun x=>!ltN dk[a]! x) dk j (i))) (fun vv _=>j+1 - (intOf vv).toNat)
  case atStart=>exact ⟨i,m,rfl,Nat.le_refl _,hij,hw,rfl⟩
  case round =>
   clear hw
   obtain ⟨i2,mi2,rfl,hsi2,hbi2,hwi2,hRi2⟩:=hrel
   obtain ⟨G,hG,hcw,hfw⟩:=row_facts HH.out hs hwi2.out
   have HG:=hid hG
   clear hG
   have HX:=hid (fun q=>show wr.drewN q=putRow encN (Sort.ahead w (mi2+q)) blk off dk by rw [hwi2.out];exact putRow_drewN _ _ _ _ _ _ _)
   have ja:a<d.size:=by omega
   by_cases hle:i2≤j
   ·have jv:i2<d.size:=by omega
    cases hg:ltN (G a) (G i2)
    ·have C:=hid (fun w=>hg ▸ CL.out (G a) (G i2) w)
     have GO:=hid (show scanUp (fun x=>!ltN dk[a]! x) dk j (i2+1)=scanUp (fun x=>!ltN dk[a]! x) dk j (i) by rw [← hRi2.out,scanUp_go (fun x=>!ltN dk[a]! x) dk j i2 hle (by show (!ltN dk[a]! dk[i2]!)=true;rw [← HG.out,← HG.out,hg] <;> rfl)])
     clear hg
     go_wp2
     go_big_quiet (first | (go_at_call 188;refine Calls.quiet_of_same (C.out _)))
     go_wp2
     go_roundw
     case rel=>exact ⟨i2+1,mi2+nq,by go_num,by omega,by omega,HX.out _,GO.out⟩
     case measure=>simp [intOf] <;> omega
    ·have HI:=hid (show i2=scanUp (fun x=>!ltN dk[a]! x) dk j (i) by rw [← hRi2.out,scanUp_end (fun x=>!ltN dk[a]! x) dk j i2 (.inr (by show (!ltN dk[a]! dk[i2]!)=false;rw [← HG.out,← HG.out,hg] <;> rfl))])
     have C:=hid (fun w=>hg ▸ CL.out (G a) (G i2) w)
     clear hg
     go_wp2
     go_big_quiet (first | (go_at_call 188;refine Calls.quiet_of_same (C.out _)))
     go_wp2
     have hwq:=HX.out nq
     replace hwq:=hid hwq
     clear HX hcw hfw HG hRi2 hwi2
     generalize wr.drewN nq=wq at hwq ⊢
     generalize mi2+nq=mq at hwq
     clear wr
     go_loopw [10] (fun vv wr=>∃ (j2 mj2:Nat),vv=.int .i64 j2∧j2≤j∧i2≤j2+1∧Hid (wr=putRow encN (Sort.ahead w mj2) blk off dk)∧Hid (scanDown (fun x=>ltN dk[a]! x) dk i2 (j2)=scanDown (fun x=>ltN dk[a]! x) dk i2 (j))) (fun vv _=>(intOf vv).toNat)
     case atStart=>exact ⟨j,mq,rfl,Nat.le_refl _,by omega,hwq,rfl⟩
     case round =>
      clear hwq
      obtain ⟨j2,mj2,rfl,hsj2,hbj2,hwj2,hRj2⟩:=hrel
      obtain ⟨G,hG,hcw,hfw⟩:=row_facts HH.out hs hwj2.out
      have HG:=hid hG
      clear hG
      have HX:=hid (fun q=>show wr.drewN q=putRow encN (Sort.ahead w (mj2+q)) blk off dk by rw [hwj2.out];exact putRow_drewN _ _ _ _ _ _ _)
      have ja:a<d.size:=by omega
      by_cases hle:i2≤j2
      ·have jv:j2<d.size:=by omega
       cases hg:ltN (G a) (G j2)
       ·have HJ:=hid (show j2=scanDown (fun x=>ltN dk[a]! x) dk i2 (j) by rw [← hRj2.out,scanDown_end (fun x=>ltN dk[a]! x) dk i2 j2 (.inr (by show ltN dk[a]! dk[j2]! = false;rw [← HG.out,← HG.out,hg] <;> rfl))])
        have C:=hid (fun w=>hg ▸ CL.out (G a) (G j2) w)
        clear hg
        go_wp2
        go_big_quiet (first | (go_at_call 188;refine Calls.quiet_of_same (C.out _)))
        go_wp2
        have hwq:=HX.out nq
        replace hwq:=hid hwq
        clear HX hcw hfw HG hRj2 hwj2
        generalize wr.drewN nq=wq at hwq ⊢
        generalize mj2+nq=mq at hwq
        clear wr
        have hgt:¬ j2<i2:=by omega
        obtain ⟨G,hG,hcw,hfw⟩:=row_facts HH.out hs hwq.out
        have HG:=hid hG
        clear hG
        have k1:i2<d.size:=by omega
        have k2:j2<d.size:=by omega
        have hlt:=scans_lt ltN a i j dk (by omega) HI.out HJ.out (by omega)
        have hne:i2≠j2:=by omega
        have GO:=hid (show partEqLoop ltN a (i2+1) (j2 - 1) (swp dk i2 j2)=partEqLoop ltN a (a+1) (b - 1) (swp d a pivot) by rw [← hR.out];exact (partEq_go ltN a i j dk HI.out HJ.out (by omega)).symm)
        have hgt2:¬ (j2:Int)<(i2:Int):=by omega
        go_wp2
        go_region
        all_goals go_wp2
        go_roundw
        case rel=>exact ⟨i2+1,j2 - 1,mq+1,swp dk i2 j2,by go_num,by congr 1;omega,by omega,by omega,by omega,by rw [size_swp];exact hs,by
         unfold Hid
         rw [hwq.out,HG.out,HG.out]
         exact swap_worldA _ w mq 1 blk off dk i2 j2 (by omega) (by omega),GO.out⟩
        case measure=>simp [intOf] <;> omega
       ·have C:=hid (fun w=>hg ▸ CL.out (G a) (G j2) w)
        have GO:=hid (show scanDown (fun x=>ltN dk[a]! x) dk i2 (j2 - 1)=scanDown (fun x=>ltN dk[a]! x) dk i2 (j) by rw [← hRj2.out,scanDown_go (fun x=>ltN dk[a]! x) dk i2 j2 hle (by omega) (by show ltN dk[a]! dk[j2]! = true;rw [← HG.out,← HG.out,hg] <;> rfl)])
        clear hg
        go_wp2
        go_big_quiet (first | (go_at_call 188;refine Calls.quiet_of_same (C.out _)))
        go_wp2
        go_roundw
        case rel=>exact ⟨j2 - 1,mj2+nq,by congr 1;omega,by omega,by omega,HX.out _,GO.out⟩
        case measure=>simp [intOf] <;> omega
      ·have HJ:=hid (show j2=scanDown (fun x=>ltN dk[a]! x) dk i2 (j) by rw [← hRj2.out,scanDown_end (fun x=>ltN dk[a]! x) dk i2 j2 (.inl hle)])
       have hd:decide ((i2:Int)≤(j2:Int))=false:=by simp;omega
       go_wp2
       go_big_quiet (first | (go_at_call 188;refine Calls.quiet_of_same (CL.out _ _ _)))
       go_wp2
       have hwq:=HX.out nq
       replace hwq:=hid hwq
       clear HX hcw hfw HG hRj2 hwj2
       generalize wr.drewN nq=wq at hwq ⊢
       generalize mj2+nq=mq at hwq
       clear wr
       have hgt:j2<i2:=by omega
       have DN:=hid (show partitionEqual ltN d a b pivot=(i2,dk) by unfold partitionEqual;rw [← hR.out];exact partEq_break ltN a i j dk HI.out HJ.out hgt)
       go_wp2
       go_ret
       exact ⟨by rw [DN.out];rfl,_,by rw [DN.out];exact hwq.out⟩
   ·have HI:=hid (show i2=scanUp (fun x=>!ltN dk[a]! x) dk j (i) by rw [← hRi2.out,scanUp_end (fun x=>!ltN dk[a]! x) dk j i2 (.inl hle)])
    have hd:decide ((i2:Int)≤(j:Int))=false:=by simp;omega
    go_wp2
    go_big_quiet (first | (go_at_call 188;refine Calls.quiet_of_same (CL.out _ _ _)))
    go_wp2
    have hwq:=HX.out nq
    replace hwq:=hid hwq
    clear HX hcw hfw HG hRi2 hwi2
    generalize wr.drewN nq=wq at hwq ⊢
    generalize mi2+nq=mq at hwq
    clear wr
    go_loopw [10] (fun vv wr=>∃ (j2 mj2:Nat),vv=.int .i64 j2∧j2≤j∧i2≤j2+1∧Hid (wr=putRow encN (Sort.ahead w mj2) blk off dk)∧Hid (scanDown (fun x=>ltN dk[a]! x) dk i2 (j2)=scanDown (fun x=>ltN dk[a]! x) dk i2 (j))) (fun vv _=>(intOf vv).toNat)
    case atStart=>exact ⟨j,mq,rfl,Nat.le_refl _,by omega,hwq,rfl⟩
    case round =>
     clear hwq
     obtain ⟨j2,mj2,rfl,hsj2,hbj2,hwj2,hRj2⟩:=hrel
     obtain ⟨G,hG,hcw,hfw⟩:=row_facts HH.out hs hwj2.out
     have HG:=hid hG
     clear hG
     have HX:=hid (fun q=>show wr.drewN q=putRow encN (Sort.ahead w (mj2+q)) blk off dk by rw [hwj2.out];exact putRow_drewN _ _ _ _ _ _ _)
     have ja:a<d.size:=by omega
     by_cases hle:i2≤j2
     ·exfalso;omega
     ·have HJ:=hid (show j2=scanDown (fun x=>ltN dk[a]! x) dk i2 (j) by rw [← hRj2.out,scanDown_end (fun x=>ltN dk[a]! x) dk i2 j2 (.inl hle)])
      have hd:decide ((i2:Int)≤(j2:Int))=false:=by simp;omega
      go_wp2
      go_big_quiet (first | (go_at_call 188;refine Calls.quiet_of_same (CL.out _ _ _)))
      go_wp2
      have hwq:=HX.out nq
      replace hwq:=hid hwq
      clear HX hcw hfw HG hRj2 hwj2
      generalize wr.drewN nq=wq at hwq ⊢
      generalize mj2+nq=mq at hwq
      clear wr
      have hgt:j2<i2:=by omega
      have DN:=hid (show partitionEqual ltN d a b pivot=(i2,dk) by unfold partitionEqual;rw [← hR.out];exact partEq_break ltN a i j dk HI.out HJ.out hgt)
      go_wp2
      go_ret
      exact ⟨by rw [DN.out];rfl,_,by rw [DN.out];exact hwq.out⟩
end Srt
namespace Srt
open Go.RowKit Go.Sort
def Gave2 (blk off:Nat) (r:Nat) (ap:Bool) (d':Array Nat) (w:World) (e:Ending) (w':World):Prop:=e=.returned (.tuple #[.int .i64 r,.bool ap])∧∃ n,w'=putRow encN (Sort.ahead w n) blk off d'
theorem split_part (blk off cap a b pivot:Nat) (d:Array Nat) (w:World) (hH:Holds encN w blk off d) (hap:a<pivot) (hpb:pivot<b) (hb:b≤d.size) (hsz:d.size<1000000000) :
  Calls Tryz.prog 190 #[.slice (some ⟨blk,off,none⟩) d.size cap,.int .i64 a,.int .i64 b,.int .i64 pivot] w (Gave2 blk off (partition ltN d a b pivot).1 (partition ltN d a b pivot).2.1 (partition ltN d a b pivot).2.2 w):=by
 have HH:=hid hH
 have CL:=hid less_q
 clear hH
 obtain ⟨G,hG,hcw,hfw⟩:=row_facts (m:=0) (dk:=d) HH.out rfl (show w=putRow encN (Sort.ahead w 0) blk off d from (putRow_self _ _ _ _ _ HH.out).symm)
 have ja:a<d.size:=by omega
 have jp:pivot<d.size:=by omega
 have HG:=hid hG
 have HX:=hid (show ((w.drewN 1).setCell ⟨blk,off+a,none⟩ (.int .u32 (G pivot))).setCell ⟨blk,off+pivot,none⟩ (.int .u32 (G a))=putRow encN (Sort.ahead w 1) blk off (swp d a pivot) by
  rw [HG.out,HG.out]
  have:=swap_worldA encN w 0 1 blk off d a pivot (by omega) (by omega)
  rw [show putRow encN (Sort.ahead w 0) blk off d=w from putRow_self _ _ _ _ _ HH.out] at this
  exact this)
 clear hG HG
 obtain ⟨dk,hdk0⟩:∃ dk,dk=swp d a pivot:=⟨_,rfl⟩
 obtain ⟨i1,hi0⟩:∃ i1,i1=a+1:=⟨_,rfl⟩
 obtain ⟨j1,hj0⟩:∃ j1,j1=b - 1:=⟨_,rfl⟩
 have hs:dk.size=d.size:=by rw [hdk0,size_swp]
 have hw:=hid HX.out
 rw [← hdk0] at hw
 have hdk:=hid hdk0
 have hi1:=hid hi0
 have hj1:=hid hj0
 clear HX hdk0
 go_enter Tryz.func190,Tryz.ntmps190
 have hne:a≠pivot:=by omega
 go_wp2
 go_region
 all_goals go_wp2
 rw [show ((a:Int)+1)=(i1:Int) by omega,show ((b:Int) - 1)=(j1:Int) by omega]
 have hj2:j1<b:=by omega
 have hi2:a<i1:=by omega
 have hij1:i1≤j1+1:=by omega
 clear hi0 hj0
 go_loopw [10] (fun vv wr=>∃ (i2 mi2:Nat),vv=.int .i64 i2∧i1≤i2∧i2≤j1+1∧Hid (wr=putRow encN (Sort.ahead w mi2) blk off dk)∧Hid (scanUp (fun x=>ltN x dk[a]!) dk j1 (i2)=scanUp (fun x=>ltN x dk[a]!) dk j1 (i1))) (fun vv _=>j1+1 - (intOf vv).toNat)
 case atStart=>exact ⟨i1,1,rfl,Nat.le_refl _,by omega,hw,rfl⟩
 case round =>
  clear hw
  obtain ⟨i2,mi2,rfl,hsi2,hbi2,hwi2,hRi2⟩:=hrel
  obtain ⟨G,hG,hcw,hfw⟩:=row_facts HH.out hs hwi2.out
  have HG:=hid hG
  clear hG
  have HX:=hid (fun q=>show wr.drewN q=putRow encN (Sort.ahead w (mi2+q)) blk off dk by rw [hwi2.out];exact putRow_drewN _ _ _ _ _ _ _)
  have ja:a<d.size:=by omega
  by_cases hle:i2≤j1
  ·have jv:i2<d.size:=by omega
   cases hg:ltN (G i2) (G a)
   ·have HI:=hid (show i2=scanUp (fun x=>ltN x dk[a]!) dk j1 (i1) by rw [← hRi2.out,scanUp_end (fun x=>ltN x dk[a]!) dk j1 i2 (.inr (by show ltN dk[i2]! dk[a]! = false;rw [← HG.out,← HG.out,hg] <;> rfl))])
    have C:=hid (fun w=>hg ▸ CL.out (G i2) (G a) w)
    clear hg
    go_wp2
    go_big_quiet (first | (go_at_call 188;refine Calls.quiet_of_same (C.out _)))
    go_wp2
    have hwq:=HX.out nq
    replace hwq:=hid hwq
    clear HX hcw hfw HG hRi2 hwi2
    generalize wr.drewN nq=wq at hwq ⊢
    generalize mi2+nq=mq at hwq
    clear wr
    go_loopw [11] (fun vv wr=>∃ (j2 mj2:Nat),vv=.int .i64 j2∧j2≤j1∧i2≤j2+1∧Hid (wr=putRow encN (Sort.ahead w mj2) blk off dk)∧Hid (scanDown (fun x=>!ltN x dk[a]!) dk i2 (j2)=scanDown (fun x=>!ltN x dk[a]!) dk i2 (j1))) (fun vv _=>(intOf vv).toNat)
    case atStart=>exact ⟨j1,mq,rfl,Nat.le_refl _,by omega,hwq,rfl⟩
    case round =>
     clear hwq
     obtain ⟨j2,mj2,rfl,hsj2,hbj2,hwj2,hRj2⟩:=hrel
     obtain ⟨G,hG,hcw,hfw⟩:=row_facts HH.out hs hwj2.out
     have HG:=hid hG
     clear hG
     have HX:=hid (fun q=>show wr.drewN q=putRow encN (Sort.ahead w (mj2+q)) blk off dk by rw [hwj2.out];exact putRow_drewN _ _ _ _ _ _ _)
     have ja:a<d.size:=by omega
     by_cases hle:i2≤j2
     ·have jv:j2<d.size:=by omega
      cases hg:ltN (G j2) (G a)
      ·have C:=hid (fun w=>hg ▸ CL.out (G j2) (G a) w)
       have GO:=hid (show scanDown (fun x=>!ltN x dk[a]!) dk i2 (j2 - 1)=scanDown (fun x=>!ltN x dk[a]!) dk i2 (j1) by rw [← hRj2.out,scanDown_go (fun x=>!ltN x dk[a]!) dk i2 j2 hle (by omega) (by show (!ltN dk[j2]! dk[a]!)=true;rw [← HG.out,← HG.out,hg] <;> rfl)])
       clear hg
       go_wp2
       go_big_quiet (first | (go_at_call 188;refine Calls.quiet_of_same (C.out _)))
       go_wp2
       go_roundw
       case rel=>exact ⟨j2 - 1,mj2+nq,by congr 1;omega,by omega,by omega,HX.out _,GO.out⟩
       case measure=>simp [intOf] <;> omega
      ·have HJ:=hid (show j2=scanDown (fun x=>!ltN x dk[a]!) dk i2 (j1) by rw [← hRj2.out,scanDown_end (fun x=>!ltN x dk[a]!) dk i2 j2 (.inr (by show (!ltN dk[j2]! dk[a]!)=false;rw [← HG.out,← HG.out,hg] <;> rfl))])
       have C:=hid (fun w=>hg ▸ CL.out (G j2) (G a) w)
       clear hg
       go_wp2
       go_big_quiet (first | (go_at_call 188;refine Calls.quiet_of_same (C.out _)))
       go_wp2
       have hwq:=HX.out nq
       replace hwq:=hid hwq
       clear HX hcw hfw HG hRj2 hwj2
       generalize wr.drewN nq=wq at hwq ⊢
       generalize mj2+nq=mq at hwq
       clear wr
       have hgt:¬ j2<i2:=by omega
       have FIRST0:=part_first_go ltN d a b pivot hi1.out hj1.out hdk.out HI.out HJ.out (by omega)
       obtain ⟨G,hG,hcw,hfw⟩:=row_facts HH.out hs hwq.out
       have HG:=hid hG
       clear hG
       have k1:i2<d.size:=by omega
       have k2:j2<d.size:=by omega
       have hlt:=part_scans_lt ltN a i1 j1 dk (by omega) HI.out HJ.out (by omega)
       have hne:i2≠j2:=by omega
       have hgt2:¬ (j2:Int)<(i2:Int):=by omega
       obtain ⟨R,hRR⟩:∃ R,Hid (partLoop ltN a (i2+1) (j2 - 1) (swp dk i2 j2)=R):=⟨_,rfl⟩
       have FIRST:=hid (fun (r:Nat × Array Nat) (h:R=r)=>show partition ltN d a b pivot=(r.1,false,swp r.2 r.1 a) by rw [FIRST0,← h,← hRR.out])
       clear FIRST0
       have HW:=hid (show Hid (((wq.drewN 1).setCell ⟨blk,off+i2,none⟩ (.int .u32 (G j2))).setCell ⟨blk,off+j2,none⟩ (.int .u32 (G i2))=putRow encN (Sort.ahead w (mq+1)) blk off (swp dk i2 j2)) by
        unfold Hid
        rw [hwq.out,HG.out,HG.out]
        exact swap_worldA _ w mq 1 blk off dk i2 j2 (by omega) (by omega))
       go_wp2
       go_region
       all_goals go_wp2
       go_loopw [10,11] (fun vi vj wr=>∃ (i j m:Nat) (dk:Array Nat),vi=.int .i64 i∧vj=.int .i64 j∧a<i∧i≤j+1∧j<b∧dk.size=d.size∧Hid (wr=putRow encN (Sort.ahead w m) blk off dk)∧Hid (partLoop ltN a i j dk=R)) (fun vi vj _=>(intOf vj).toNat+1 - (intOf vi).toNat)
       case atStart=>exact ⟨i2+1,j2 - 1,mq+1,swp dk i2 j2,by go_num,by congr 1;omega,by omega,by omega,by omega,by rw [size_swp];exact hs,HW.out,hRR⟩
       case round =>
        clear HI HJ hs hwq HW hRR hcw hfw HG
        obtain ⟨i,j,m,dk,rfl,rfl,hai,hij,hjb,hs,hw,hR⟩:=hrel
        go_wp2
        go_loopw [10] (fun vv wr=>∃ (i3 mi3:Nat),vv=.int .i64 i3∧i≤i3∧i3≤j+1∧Hid (wr=putRow encN (Sort.ahead w mi3) blk off dk)∧Hid (scanUp (fun x=>ltN x dk[a]!) dk j (i3)=scanUp (fun x=>ltN x dk[a]!) dk j (i))) (fun vv _=>j+1 - (intOf vv).toNat)
        case atStart=>exact ⟨i,m,rfl,Nat.le_refl _,hij,hw,rfl⟩
        case round =>
         clear hw
         obtain ⟨i3,mi3,rfl,hsi3,hbi3,hwi3,hRi3⟩:=hrel
         obtain ⟨G,hG,hcw,hfw⟩:=row_facts HH.out hs hwi3.out
         have HG:=hid hG
         clear hG
         have HX:=hid (fun q=>show wr.drewN q=putRow encN (Sort.ahead w (mi3+q)) blk off dk by rw [hwi3.out];exact putRow_drewN _ _ _ _ _ _ _)
         have ja:a<d.size:=by omega
         by_cases hle:i3≤j
         ·have jv:i3<d.size:=by omega
          cases hg:ltN (G i3) (G a)
          ·have HI:=hid (show i3=scanUp (fun x=>ltN x dk[a]!) dk j (i) by rw [← hRi3.out,scanUp_end (fun x=>ltN x dk[a]!) dk j i3 (.inr (by show ltN dk[i3]! dk[a]! = false;rw [← HG.out,← HG.out,hg] <;> rfl))])
           have C:=hid (fun w=>hg ▸ CL.out (G i3) (G a) w)
           clear hg
           go_wp2
           go_big_quiet (first | (go_at_call 188;refine Calls.quiet_of_same (C.out _)))
           go_wp2
           have hwq:=HX.out nq
           replace hwq:=hid hwq
           clear HX hcw hfw HG hRi3 hwi3
           generalize wr.drewN nq=wq at hwq ⊢
           generalize mi3+nq=mq at hwq
           clear wr
           go_loopw [11] (fun vv wr=>∃ (j3 mj3:Nat),vv=.int .i64 j3∧j3≤j∧i3≤j3+1∧Hid (wr=putRow encN (Sort.ahead w mj3) blk off dk)∧Hid (scanDown (fun x=>!ltN x dk[a]!) dk i3 (j3)=scanDown (fun x=>!ltN x dk[a]!) dk i3 (j))) (fun vv _=>(intOf vv).toNat)
           case atStart=>exact ⟨j,mq,rfl,Nat.le_refl _,by omega,hwq,rfl⟩
           case round =>
            clear hwq
            obtain ⟨j3,mj3,rfl,hsj3,hbj3,hwj3,hRj3⟩:=hrel
            obtain ⟨G,hG,hcw,hfw⟩:=row_facts HH.out hs hwj3.out
            have HG:=hid hG
            clear hG
            have HX:=hid (fun q=>show wr.drewN q=putRow encN (Sort.ahead w (mj3+q)) blk off dk by rw [hwj3.out];exact putRow_drewN _ _ _ _ _ _ _)
            have ja:a<d.size:=by omega
            by_cases hle:i3≤j3
            ·have jv:j3<d.size:=by omega
             cases hg:ltN (G j3) (G a)
             ·have C:=hid (fun w=>hg ▸ CL.out (G j3) (G a) w)
              have GO:=hid (show scanDown (fun x=>!ltN x dk[a]!) dk i3 (j3 - 1)=scanDown (fun x=>!ltN x dk[a]!) dk i3 (j) by rw [← hRj3.out,scanDown_go (fun x=>!ltN x dk[a]!) dk i3 j3 hle (by omega) (by show (!ltN dk[j3]! dk[a]!)=true;rw [← HG.out,← HG.out,hg] <;> rfl)])
              clear hg
              go_wp2
              go_big_quiet (first | (go_at_call 188;refine Calls.quiet_of_same (C.out _)))
              go_wp2
              go_roundw
              case rel=>exact ⟨j3 - 1,mj3+nq,by congr 1;omega,by omega,by omega,HX.out _,GO.out⟩
              case measure=>simp [intOf] <;> omega
             ·have HJ:=hid (show j3=scanDown (fun x=>!ltN x dk[a]!) dk i3 (j) by rw [← hRj3.out,scanDown_end (fun x=>!ltN x dk[a]!) dk i3 j3 (.inr (by show (!ltN dk[j3]! dk[a]!)=false;rw [← HG.out,← HG.out,hg] <;> rfl))])
              have C:=hid (fun w=>hg ▸ CL.out (G j3) (G a) w)
              clear hg
              go_wp2
              go_big_quiet (first | (go_at_call 188;refine Calls.quiet_of_same (C.out _)))
              go_wp2
              have hwq:=HX.out nq
              replace hwq:=hid hwq
              clear HX hcw hfw HG hRj3 hwj3
              generalize wr.drewN nq=wq at hwq ⊢
              generalize mj3+nq=mq at hwq
              clear wr
              have hgt:¬ j3<i3:=by omega
              obtain ⟨G,hG,hcw,hfw⟩:=row_facts HH.out hs hwq.out
              have HG:=hid hG
              clear hG
              have k1:i3<d.size:=by omega
              have k2:j3<d.size:=by omega
              have hlt:=part_scans_lt ltN a i j dk (by omega) HI.out HJ.out (by omega)
              have hne:i3≠j3:=by omega
              have GO:=hid (show partLoop ltN a (i3+1) (j3 - 1) (swp dk i3 j3)=R by rw [← hR.out];exact (part_go ltN a i j dk HI.out HJ.out (by omega)).symm)
              have hgt2:¬ (j3:Int)<(i3:Int):=by omega
              go_wp2
              go_region
              all_goals go_wp2
              go_roundw
              case rel=>exact ⟨i3+1,j3 - 1,mq+1,swp dk i3 j3,by go_num,by congr 1;omega,by omega,by omega,by omega,by rw [size_swp];exact hs,by
               unfold Hid
               rw [hwq.out,HG.out,HG.out]
               exact swap_worldA _ w mq 1 blk off dk i3 j3 (by omega) (by omega),GO.out⟩
              case measure=>simp [intOf] <;> omega
            ·have HJ:=hid (show j3=scanDown (fun x=>!ltN x dk[a]!) dk i3 (j) by rw [← hRj3.out,scanDown_end (fun x=>!ltN x dk[a]!) dk i3 j3 (.inl hle)])
             have hd:decide ((i3:Int)≤(j3:Int))=false:=by simp;omega
             go_wp2
             go_big_quiet (first | (go_at_call 188;refine Calls.quiet_of_same (CL.out _ _ _)))
             go_wp2
             have hwq:=HX.out nq
             replace hwq:=hid hwq
             clear HX hcw hfw HG hRj3 hwj3
             generalize wr.drewN nq=wq at hwq ⊢
             generalize mj3+nq=mq at hwq
             clear wr
             have hgt:j3<i3:=by omega
             have DN:=hid (show partition ltN d a b pivot=(j3,false,swp dk j3 a) from FIRST.out (j3,dk) (by rw [← hR.out];exact part_break ltN a i j dk HI.out HJ.out hgt))
             obtain ⟨G,hG,hcw,hfw⟩:=row_facts HH.out hs hwq.out
             have HG:=hid hG
             clear hG
             have ka:a<d.size:=by omega
             have kj:j3<d.size:=by omega
             have HW:=hid (show ((wq.drewN 1).setCell ⟨blk,off+j3,none⟩ (.int .u32 (G a))).setCell ⟨blk,off+a,none⟩ (.int .u32 (G j3))=putRow encN (Sort.ahead w (mq+1)) blk off (swp dk j3 a) by
              rw [hwq.out,HG.out,HG.out]
              exact swap_worldA _ w mq 1 blk off dk j3 a (by omega) (by omega))
             by_cases hja:a=j3
             ·subst hja
              go_wp2
              go_region
              all_goals go_wp2
              go_ret2
              exact ⟨by rw [DN.out];rfl,mq+1,by rw [DN.out];exact HW.out⟩
             ·have hne:j3≠a:=fun h=>hja h.symm
              go_wp2
              go_region
              all_goals go_wp2
              go_ret2
              exact ⟨by rw [DN.out];rfl,mq+1,by rw [DN.out];exact HW.out⟩
          ·have C:=hid (fun w=>hg ▸ CL.out (G i3) (G a) w)
           have GO:=hid (show scanUp (fun x=>ltN x dk[a]!) dk j (i3+1)=scanUp (fun x=>ltN x dk[a]!) dk j (i) by rw [← hRi3.out,scanUp_go (fun x=>ltN x dk[a]!) dk j i3 hle (by show ltN dk[i3]! dk[a]! = true;rw [← HG.out,← HG.out,hg] <;> rfl)])
           clear hg
           go_wp2
           go_big_quiet (first | (go_at_call 188;refine Calls.quiet_of_same (C.out _)))
           go_wp2
           go_roundw
           case rel=>exact ⟨i3+1,mi3+nq,by go_num,by omega,by omega,HX.out _,GO.out⟩
           case measure=>simp [intOf] <;> omega
         ·have HI:=hid (show i3=scanUp (fun x=>ltN x dk[a]!) dk j (i) by rw [← hRi3.out,scanUp_end (fun x=>ltN x dk[a]!) dk j i3 (.inl hle)])
          have hd:decide ((i3:Int)≤(j:Int))=false:=by simp;omega
          go_wp2
          go_big_quiet (first | (go_at_call 188;refine Calls.quiet_of_same (CL.out _ _ _)))
          go_wp2
          have hwq:=HX.out nq
          replace hwq:=hid hwq
          clear HX hcw hfw HG hRi3 hwi3
          generalize wr.drewN nq=wq at hwq ⊢
          generalize mi3+nq=mq at hwq
          clear wr
          go_loopw [11] (fun vv wr=>∃ (j3 mj3:Nat),vv=.int .i64 j3∧j3≤j∧i3≤j3+1∧Hid (wr=putRow encN (Sort.ahead w mj3) blk off dk)∧Hid (scanDown (fun x=>!ltN x dk[a]!) dk i3 (j3)=scanDown (fun x=>!ltN x dk[a]!) dk i3 (j))) (fun vv _=>(intOf vv).toNat)
          case atStart=>exact ⟨j,mq,rfl,Nat.le_refl _,by omega,hwq,rfl⟩
          case round =>
           clear hwq
           obtain ⟨j3,mj3,rfl,hsj3,hbj3,hwj3,hRj3⟩:=hrel
           obtain ⟨G,hG,hcw,hfw⟩:=row_facts HH.out hs hwj3.out
           have HG:=hid hG
           clear hG
           have HX:=hid (fun q=>show wr.drewN q=putRow encN (Sort.ahead w (mj3+q)) blk off dk by rw [hwj3.out];exact putRow_drewN _ _ _ _ _ _ _)
           have ja:a<d.size:=by omega
           by_cases hle:i3≤j3
           ·exfalso;omega
           ·have HJ:=hid (show j3=scanDown (fun x=>!ltN x dk[a]!) dk i3 (j) by rw [← hRj3.out,scanDown_end (fun x=>!ltN x dk[a]!) dk i3 j3 (.inl hle)])
            have hd:decide ((i3:Int)≤(j3:Int))=false:=by simp;omega
            go_wp2
            go_big_quiet (first | (go_at_call 188;refine Calls.quiet_of_same (CL.out _ _ _)))
            go_wp2
            have hwq:=HX.out nq
            replace hwq:=hid hwq
            clear HX hcw hfw HG hRj3 hwj3
            generalize wr.drewN nq=wq at hwq ⊢
            generalize mj3+nq=mq at hwq
            clear wr
            have hgt:j3<i3:=by omega
            have DN:=hid (show partition ltN d a b pivot=(j3,false,swp dk j3 a) from FIRST.out (j3,dk) (by rw [← hR.out];exact part_break ltN a i j dk HI.out HJ.out hgt))
            obtain ⟨G,hG,hcw,hfw⟩:=row_facts HH.out hs hwq.out
            have HG:=hid hG
            clear hG
            have ka:a<d.size:=by omega
            have kj:j3<d.size:=by omega
            have HW:=hid (show ((wq.drewN 1).setCell ⟨blk,off+j3,none⟩ (.int .u32 (G a))).setCell ⟨blk,off+a,none⟩ (.int .u32 (G j3))=putRow encN (Sort.ahead w (mq+1)) blk off (swp dk j3 a) by
             rw [hwq.out,HG.out,HG.out]
             exact swap_worldA _ w mq 1 blk off dk j3 a (by omega) (by omega))
            by_cases hja:a=j3
            ·subst hja
             go_wp2
             go_region
             all_goals go_wp2
             go_ret2
             exact ⟨by rw [DN.out];rfl,mq+1,by rw [DN.out];exact HW.out⟩
            ·have hne:j3≠a:=fun h=>hja h.symm
             go_wp2
             go_region
             all_goals go_wp2
             go_ret2
             exact ⟨by rw [DN.out];rfl,mq+1,by rw [DN.out];exact HW.out⟩
     ·have HJ:=hid (show j2=scanDown (fun x=>!ltN x dk[a]!) dk i2 (j1) by rw [← hRj2.out,scanDown_end (fun x=>!ltN x dk[a]!) dk i2 j2 (.inl hle)])
      have hd:decide ((i2:Int)≤(j2:Int))=false:=by simp;omega
      go_wp2
      go_big_quiet (first | (go_at_call 188;refine Calls.quiet_of_same (CL.out _ _ _)))
      go_wp2
      have hwq:=HX.out nq
      replace hwq:=hid hwq
      clear HX hcw hfw HG hRj2 hwj2
      generalize wr.drewN nq=wq at hwq ⊢
      generalize mj2+nq=mq at hwq
      clear wr
      have hgt:j2<i2:=by omega
      have DN:=hid (part_first_break ltN d a b pivot hi1.out hj1.out hdk.out HI.out HJ.out hgt)
      obtain ⟨G,hG,hcw,hfw⟩:=row_facts HH.out hs hwq.out
      have HG:=hid hG
      clear hG
      have ka:a<d.size:=by omega
      have kj:j2<d.size:=by omega
      have HW:=hid (show ((wq.drewN 1).setCell ⟨blk,off+j2,none⟩ (.int .u32 (G a))).setCell ⟨blk,off+a,none⟩ (.int .u32 (G j2))=putRow encN (Sort.ahead w (mq+1)) blk off (swp dk j2 a) by
       rw [hwq.out,HG.out,HG.out]
       exact swap_worldA _ w mq 1 blk off dk j2 a (by omega) (by omega))
      by_cases hja:a=j2
      ·subst hja
       go_wp2
       go_region
       all_goals go_wp2
       go_ret2
       exact ⟨by rw [DN.out];rfl,mq+1,by rw [DN.out];exact HW.out⟩
      ·have hne:j2≠a:=fun h=>hja h.symm
       go_wp2
       go_region
       all_goals go_wp2
       go_ret2
       exact ⟨by rw [DN.out];rfl,mq+1,by rw [DN.out];exact HW.out⟩
   ·have C:=hid (fun w=>hg ▸ CL.out (G i2) (G a) w)
    have GO:=hid (show scanUp (fun x=>ltN x dk[a]!) dk j1 (i2+1)=scanUp (fun x=>ltN x dk[a]!) dk j1 (i1) by rw [← hRi2.out,scanUp_go (fun x=>ltN x dk[a]!) dk j1 i2 hle (by show ltN dk[i2]! dk[a]! = true;rw [← HG.out,← HG.out,hg] <;> rfl)])
    clear hg
    go_wp2
    go_big_quiet (first | (go_at_call 188;refine Calls.quiet_of_same (C.out _)))
    go_wp2
    go_roundw
    case rel=>exact ⟨i2+1,mi2+nq,by go_num,by omega,by omega,HX.out _,GO.out⟩
    case measure=>simp [intOf] <;> omega
  ·have HI:=hid (show i2=scanUp (fun x=>ltN x dk[a]!) dk j1 (i1) by rw [← hRi2.out,scanUp_end (fun x=>ltN x dk[a]!) dk j1 i2 (.inl hle)])
   have hd:decide ((i2:Int)≤(j1:Int))=false:=by simp;omega
   go_wp2
   go_big_quiet (first | (go_at_call 188;refine Calls.quiet_of_same (CL.out _ _ _)))
   go_wp2
   have hwq:=HX.out nq
   replace hwq:=hid hwq
   clear HX hcw hfw HG hRi2 hwi2
   generalize wr.drewN nq=wq at hwq ⊢
   generalize mi2+nq=mq at hwq
   clear wr
   go_loopw [11] (fun vv wr=>∃ (j2 mj2:Nat),vv=.int .i64 j2∧j2≤j1∧i2≤j2+1∧Hid (wr=putRow encN (Sort.ahead w mj2) blk off dk)∧Hid (scanDown (fun x=>!ltN x dk[a]!) dk i2 (j2)=scanDown (fun x=>!ltN x dk[a]!) dk i2 (j1))) (fun vv _=>(intOf vv).toNat)
   case atStart=>exact ⟨j1,mq,rfl,Nat.le_refl _,by omega,hwq,rfl⟩
   case round =>
    clear hwq
    obtain ⟨j2,mj2,rfl,hsj2,hbj2,hwj2,hRj2⟩:=hrel
    obtain ⟨G,hG,hcw,hfw⟩:=row_facts HH.out hs hwj2.out
    have HG:=hid hG
    clear hG
    have HX:=hid (fun q=>show wr.drewN q=putRow encN (Sort.ahead w (mj2+q)) blk off dk by rw [hwj2.out];exact putRow_drewN _ _ _ _ _ _ _)
    have ja:a<d.size:=by omega
    by_cases hle:i2≤j2
    ·exfalso;omega
    ·have HJ:=hid (show j2=scanDown (fun x=>!ltN x dk[a]!) dk i2 (j1) by rw [← hRj2.out,scanDown_end (fun x=>!ltN x dk[a]!) dk i2 j2 (.inl hle)])
     have hd:decide ((i2:Int)≤(j2:Int))=false:=by simp;omega
     go_wp2
     go_big_quiet (first | (go_at_call 188;refine Calls.quiet_of_same (CL.out _ _ _)))
     go_wp2
     have hwq:=HX.out nq
     replace hwq:=hid hwq
     clear HX hcw hfw HG hRj2 hwj2
     generalize wr.drewN nq=wq at hwq ⊢
     generalize mj2+nq=mq at hwq
     clear wr
     have hgt:j2<i2:=by omega
     have DN:=hid (part_first_break ltN d a b pivot hi1.out hj1.out hdk.out HI.out HJ.out hgt)
     obtain ⟨G,hG,hcw,hfw⟩:=row_facts HH.out hs hwq.out
     have HG:=hid hG
     clear hG
     have ka:a<d.size:=by omega
     have kj:j2<d.size:=by omega
     have HW:=hid (show ((wq.drewN 1).setCell ⟨blk,off+j2,none⟩ (.int .u32 (G a))).setCell ⟨blk,off+a,none⟩ (.int .u32 (G j2))=putRow encN (Sort.ahead w (mq+1)) blk off (swp dk j2 a) by
      rw [hwq.out,HG.out,HG.out]
      exact swap_worldA _ w mq 1 blk off dk j2 a (by omega) (by omega))
     by_cases hja:a=j2
     ·subst hja
      go_wp2
      go_region
      all_goals go_wp2
      go_ret2
      exact ⟨by rw [DN.out];rfl,mq+1,by rw [DN.out];exact HW.out⟩
     ·have hne:j2≠a:=fun h=>hja h.symm
      go_wp2
      go_region
      all_goals go_wp2
      go_ret2
      exact ⟨by rw [DN.out];rfl,mq+1,by rw [DN.out];exact HW.out⟩
end Srt
end Go.Proofs.YtjfmompgkkdliaaGreatDoor
