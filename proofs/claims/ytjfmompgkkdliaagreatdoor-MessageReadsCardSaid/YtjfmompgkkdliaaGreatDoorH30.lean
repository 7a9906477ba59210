/- Part of the proof. -/
import Derived.Test.YtjfmompgkkdliaaGreatDoorH26
import Derived.BigRegion
import Derived.Deep.DeepCutAuto
open Go.Lib (hid)
set_option maxRecDepth 100000
set_option maxHeartbeats 40000000
namespace Go.Proofs.YtjfmompgkkdliaaGreatDoor
namespace Srt
open Go.RowKit Go.Sort
theorem scanS_go {d:Array Nat} {b i:Nat} (h:i<b) (hl:ltN d[i]! d[i - 1]! = false):scanSorted ltN d b i=scanSorted ltN d b (i+1):=by
 rw [scanSorted,if_pos (by simp [h,hl])]
theorem scanS_stop {d:Array Nat} {b i:Nat} (h:¬ i<b∨ltN d[i]! d[i - 1]! = true):scanSorted ltN d b i=i:=by
 rw [scanSorted,if_neg (by rcases h with h | h <;> simp [h])]
theorem down_go {j:Nat} {d:Array Nat} (hj:1≤j) (hl:ltN d[j]! d[j - 1]! = true):shiftDown ltN j d=shiftDown ltN (j - 1) (swp d j (j - 1)):=by
 obtain ⟨k,rfl⟩:∃ k,j=k+1:=⟨j - 1,by omega⟩
 rw [shiftDown,if_neg (by simpa using hl)];rfl
theorem down_stop {j:Nat} {d:Array Nat} (h:j=0∨ltN d[j]! d[j - 1]! = false):shiftDown ltN j d=d:=by
 cases j with
 | zero=>rfl
 | succ k =>
  have hl:ltN d[k+1]! d[k]! = false:=by rcases h with h | h;omega;simpa using h
  rw [shiftDown,if_pos (by simp [hl])]
theorem up_go {b j:Nat} {d:Array Nat} (hj:j<b) (hl:ltN d[j]! d[j - 1]! = true):shiftUp ltN b j d=shiftUp ltN b (j+1) (swp d j (j - 1)):=by
 rw [shiftUp,if_pos hj,if_neg (by simpa using hl)]
theorem up_stop {b j:Nat} {d:Array Nat} (h:¬ j<b∨ltN d[j]! d[j - 1]! = false):shiftUp ltN b j d=d:=by
 rw [shiftUp]
 by_cases hj:j<b
 ·rw [if_pos hj,if_pos (by rcases h with h | h;exact absurd hj h;simp [h])]
 ·rw [if_neg hj]
def stepS (a b i:Nat) (d:Array Nat):Array Nat :=
 let d:=swp d i (i - 1)
 let d:=if i - a ≥ 2 then shiftDown ltN (i - 1) d else d
 if b - i ≥ 2 then shiftUp ltN b (i+1) d else d
theorem partialIns_step {a b s i0 i:Nat} {d:Array Nat} (hi:i=scanSorted ltN d b i0) (hb:i≠b) (h50:¬ b - a<50):partialIns ltN a b (s+1) i0 d=partialIns ltN a b s i (stepS a b i d):=by
 rw [partialIns]
 simp only
 rw [← hi,if_neg hb,if_neg h50];rfl
theorem partialIns_end {a b s i0 i:Nat} {d:Array Nat} (hi:i=scanSorted ltN d b i0) (hb:i=b):partialIns ltN a b (s+1) i0 d=(d,true):=by
 rw [partialIns]
 simp only
 rw [← hi,if_pos hb]
def Shifted (blk off:Nat) (p:Array Nat × Bool) (w:World) (e:Ending) (w':World):Prop :=
 e=.returned (.bool p.2)∧∃ n,w'=putRow encN (Sort.ahead w n) blk off p.1
theorem swap_row {w wq:World} {mq blk off i j:Nat} {dk:Array Nat} (hw:wq=putRow encN (Sort.ahead w mq) blk off dk) (hi:i<dk.size) (hj:j<dk.size) (q:Nat) {x y:Nat} (hx:x=dk[j]!) (hy:y=dk[i]!) :
  (((wq.drewN q).setCell ⟨blk,off+i,none⟩ (.int .u32 x)).setCell ⟨blk,off+j,none⟩ (.int .u32 y))=putRow encN (Sort.ahead w (mq+q)) blk off (swp dk i j):=by
 rw [hw,hx,hy]
 exact swap_worldA encN w mq q blk off dk i j hi hj
theorem partial_long (blk off cap a b:Nat) (d:Array Nat) (w:World) (hH:Holds encN w blk off d) (hb:b≤d.size) (hl:a+50≤b) (hsz:d.size<1000000000) :
  Calls Tryz.prog 187 #[.slice (some ⟨blk,off,none⟩) d.size cap,.int .i64 a,.int .i64 b] w (Shifted blk off (partialInsertionSort ltN d a b) w):=by
 have HH:=hid hH
 have CL:=hid less_q
 have h50:=hid (show ¬ b - a<50 by omega)
 obtain ⟨R,hRR⟩:∃ R,R=partialInsertionSort ltN d a b:=⟨_,rfl⟩
 rw [← hRR]
 have HR:=hid hRR
 clear hH hRR
 go_enter Tryz.func187,Tryz.ntmps187
 go_wp2
 go_loopw [7,8] (fun vi vk wr=>∃ (k i m:Nat) (dk:Array Nat),vk=.int .i64 k∧vi=.int .i64 i∧k≤5∧a<i∧i≤b∧dk.size=d.size∧wr=putRow encN (Sort.ahead w m) blk off dk∧Hid (partialIns ltN a b (5 - k) i dk=R)) (fun _ vk _=>5 - (intOf vk).toNat)
 case atStart=>exact ⟨0,a+1,0,d,rfl,by go_num,by omega,by omega,by omega,rfl,(putRow_self _ _ _ _ _ HH.out).symm,HR.out.symm⟩
 case round =>
  obtain ⟨k,i0,m0,dk,rfl,rfl,hk,hai0,hib0,hs,hw0,HP⟩:=hrel
  replace hw0:=hid hw0
  by_cases hk5:k<5
  ·have hk5i:(k:Int)<5:=by omega
   go_wp2
   go_loopw [7] (fun vi wr=>∃ (i m:Nat),vi=.int .i64 i∧i0≤i∧i≤b∧Hid (wr=putRow encN (Sort.ahead w m) blk off dk)∧Hid (scanSorted ltN dk b i=scanSorted ltN dk b i0)) (fun vi _=>b+1 - (intOf vi).toNat)
   case atStart=>exact ⟨i0,m0,rfl,Nat.le_refl _,hib0,hw0,rfl⟩
   case round =>
    clear hw0
    obtain ⟨i,m,rfl,hi1,hi2,hwL,hR⟩:=hrel
    obtain ⟨G,hG,hcw,hfw⟩:=row_facts HH.out hs hwL.out
    have HG:=hid hG
    clear hG
    have HX:=hid (fun q=>show wr.drewN q=putRow encN (Sort.ahead w (m+q)) blk off dk by rw [hwL.out];exact putRow_drewN _ _ _ _ _ _ _)
    by_cases hlt:i<b
    ·have j0:i<d.size:=by omega
     have j1:i - 1<d.size:=by omega
     cases hg:ltN (G i) (G (i - 1))
     ·have C:=hid (fun w=>hg ▸ CL.out (G i) (G (i - 1)) w)
      have GO:=hid (show scanSorted ltN dk b (i+1)=scanSorted ltN dk b i0 by rw [← hR.out];exact (scanS_go hlt (by rw [← HG.out,← HG.out];exact hg)).symm)
      clear hg
      go_wp2
      go_big_quiet (first | (go_at_call 188;refine Calls.quiet_of_same (C.out _)))
      go_wp2
      go_roundw
      case rel=>exact ⟨i+1,m+nq,by go_num,by omega,by omega,HX.out _,GO.out⟩
      case measure=>simp [intOf] <;> omega
     ·have HI:=hid (show i=scanSorted ltN dk b i0 by rw [← hR.out];exact (scanS_stop (.inr (by rw [← HG.out,← HG.out];exact hg))).symm)
      have C:=hid (fun w=>hg ▸ CL.out (G i) (G (i - 1)) w)
      have hwq:=hid (HX.out)
      have hne:i≠b:=by omega
      have hne2:((i:Int) == (b:Int))=false:=by simp;omega
      have h502:¬ (b:Int) - (a:Int)<50:=by have:=h50.out;omega
      obtain ⟨d1,hd1⟩:∃ d1,d1=swp dk i (i - 1):=⟨_,rfl⟩
      have hs1:d1.size=d.size:=by rw [hd1,size_swp];exact hs
      have HD1:=hid hd1
      have HS:=hid (fun q=>swap_row hwL.out (i:=i) (j:=i - 1) (by omega) (by omega) q (HG.out (i - 1)) (HG.out i))
      clear hg HX hR hd1
      go_wp2
      go_big_quiet (first | (go_at_call 188;refine Calls.quiet_of_same (C.out _)))
      go_wp2
      go_region
      all_goals go_upto_region 12 with fail
      have hw1:=hid (HS.out (nq+1))
      rw [← HD1.out] at hw1
      generalize m+(nq+1)=m1 at hw1
      clear C HS HG hcw hfw
      go_cut [61] from 13 to 132 (fun s61 wx=>∃ g:Bool,s61=.bool g∧Hid (g=true ↔ a+2≤i)∧Hid (wx=putRow encN (Sort.ahead w m1) blk off d1))
      case first =>
       go_wp2
       go_meet
       exact ⟨_,rfl,by unfold Hid;rw [decide_eq_true_iff];omega,hw1⟩
      case rest =>
      clear hw1
      obtain ⟨g,rfl,HG1,hw1⟩:=hcut
      rename_i HKK
      refine HKK _ _ ?_
      go_cut [9] from 13 to 132 (fun _ wx=>∃ (m2:Nat) (d2:Array Nat),d2.size=d.size∧Hid (wx=putRow encN (Sort.ahead w m2) blk off d2)∧Hid (d2=if 2≤i - a then shiftDown ltN (i - 1) d1 else d1))
      case first =>
       cases g
       ·go_wp2
        go_meet
        exact ⟨m1,d1,hs1,hw1,by unfold Hid;rw [if_neg (fun h=>by have:=HG1.out.2 (by omega);cases this)]⟩
       ·have hlb:a+2≤i:=HG1.out.1 rfl
        clear HG1
        go_wp2_with fail
        go_loopw [9] (fun vv wr=>∃ (j m:Nat) (d2:Array Nat),vv=.int .i64 j∧j≤i - 1∧d2.size=d.size∧Hid (wr=putRow encN (Sort.ahead w m) blk off d2)∧Hid (shiftDown ltN (j) d2=shiftDown ltN (i - 1) d1)) (fun vv _=>(intOf vv).toNat)
        case atStart=>exact ⟨i - 1,m1,d1,by congr 1;omega,by omega,hs1,hw1,rfl⟩
        case round =>
         clear hw1
         obtain ⟨j,m,d2,rfl,hjr,hs2,hwL,hR⟩:=hrel
         obtain ⟨G,hG,hcw,hfw⟩:=row_facts HH.out hs2 hwL.out
         have HG:=hid hG
         clear hG
         have HX:=hid (fun q=>show wr.drewN q=putRow encN (Sort.ahead w (m+q)) blk off d2 by rw [hwL.out];exact putRow_drewN _ _ _ _ _ _ _)
         by_cases hle:1≤j
         ·have j1:j<d.size:=by omega
          have j2:j - 1<d.size:=by omega
          cases hg:ltN (G j) (G (j - 1))
          ·have H2:=hid (show d2=if 2≤i - a then shiftDown ltN (i - 1) d1 else d1 by rw [if_pos (by omega),← hR.out];exact (down_stop (.inr (by rw [← HG.out,← HG.out];exact hg))).symm)
           have C:=hid (fun w=>hg ▸ CL.out (G j) (G (j - 1)) w)
           clear hg
           go_wp2
           go_big_quiet (first | (go_at_call 188;refine Calls.quiet_of_same (C.out _)))
           have hw2:=hid (HX.out nq)
           go_wp2
           go_meet
           exact ⟨m+nq,d2,hs2,hw2,H2⟩
          ·have C:=hid (fun w=>hg ▸ CL.out (G j) (G (j - 1)) w)
           have GO:=hid (show shiftDown ltN (j - 1) (swp d2 j (j - 1))=shiftDown ltN (i - 1) d1 by rw [← hR.out,down_go hle (by rw [← HG.out,← HG.out];exact hg)])
           have HS:=hid (fun q=>swap_row hwL.out (i:=j) (j:=j - 1) (by omega) (by omega) q (HG.out (j - 1)) (HG.out j))
           clear hg HX hwL HG hR
           go_wp2
           go_big_quiet (first | (go_at_call 188;refine Calls.quiet_of_same (C.out _)))
           go_wp2
           go_region
           all_goals go_wp2
           go_roundw
           case rel=>exact ⟨j - 1,m+(nq+1),swp d2 j (j - 1),by congr 1;omega,by omega,by rw [size_swp];exact hs2,HS.out _,GO.out⟩
           case measure=>simp [intOf] <;> omega
         ·have H2:=hid (show d2=if 2≤i - a then shiftDown ltN (i - 1) d1 else d1 by rw [if_pos (by omega),← hR.out];exact (down_stop (.inl (by omega))).symm)
          go_wp2
          go_meet
          exact ⟨m,d2,hs2,hwL,H2⟩
      case rest =>
      clear hw1 HG1
      obtain ⟨m2,d2,hs2,hw2,H2⟩:=hcut
      go_upto_region 18 with fail
      go_cut [98] from 13 to 132 (fun s98 wx=>∃ g:Bool,s98=.bool g∧Hid (g=true ↔ i+2≤b)∧Hid (wx=putRow encN (Sort.ahead w m2) blk off d2))
      case first =>
       go_wp2
       go_meet
       exact ⟨_,rfl,by unfold Hid;rw [decide_eq_true_iff];omega,hw2⟩
      case rest =>
      clear hw2
      obtain ⟨g,rfl,HG1,hw2⟩:=hcut
      rename_i HKK
      refine HKK _ _ ?_
      have HE:=hid (fun (m3:Nat) (d3:Array Nat) (_:d3.size=d.size) (H3:Hid (d3=if 2≤b - i then shiftUp ltN b (i+1) d2 else d2))=>show Hid (partialIns ltN a b (5 - (k+1)) i d3=R) by
       unfold Hid
       rw [← HP.out,show 5 - k=(5 - (k+1))+1 by omega,partialIns_step HI.out hne h50.out,show stepS a b i dk=d3 by unfold stepS;simp only;rw [← HD1.out,← H2.out,← H3.out]])
      cases g
      ·have H3:=hid (show d2=if 2≤b - i then shiftUp ltN b (i+1) d2 else d2 by rw [if_neg (fun h=>by have:=HG1.out.2 (by omega);cases this)])
       have HQ:=hid (HE.out m2 d2 hs2 H3)
       go_wp2
       go_roundw
       case rel=>exact ⟨k+1,i,m2,d2,by go_num,rfl,by omega,by omega,by omega,hs2,hw2.out,HQ.out⟩
       case measure=>simp [intOf] <;> omega
      ·have hub:i+2≤b:=HG1.out.1 rfl
       clear HG1
       go_wp2_with fail
       go_loopw [10] (fun vv wr=>∃ (j m:Nat) (d3:Array Nat),vv=.int .i64 j∧(i+1≤j∧j≤b)∧d3.size=d.size∧Hid (wr=putRow encN (Sort.ahead w m) blk off d3)∧Hid (shiftUp ltN b (j) d3=shiftUp ltN b (i+1) d2)) (fun vv _=>b+1 - (intOf vv).toNat)
       case atStart=>exact ⟨i+1,m2,d2,by go_num,by omega,hs2,hw2,rfl⟩
       case round =>
        clear hw2
        obtain ⟨j,m,d3,rfl,hjr,hs3,hwL,hR⟩:=hrel
        obtain ⟨G,hG,hcw,hfw⟩:=row_facts HH.out hs3 hwL.out
        have HG:=hid hG
        clear hG
        have HX:=hid (fun q=>show wr.drewN q=putRow encN (Sort.ahead w (m+q)) blk off d3 by rw [hwL.out];exact putRow_drewN _ _ _ _ _ _ _)
        by_cases hle:j<b
        ·have j1:j<d.size:=by omega
         have j2:j - 1<d.size:=by omega
         cases hg:ltN (G j) (G (j - 1))
         ·have H3:=hid (show d3=if 2≤b - i then shiftUp ltN b (i+1) d2 else d2 by rw [if_pos (by omega),← hR.out];exact (up_stop (.inr (by rw [← HG.out,← HG.out];exact hg))).symm)
          have C:=hid (fun w=>hg ▸ CL.out (G j) (G (j - 1)) w)
          clear hg
          go_wp2
          go_big_quiet (first | (go_at_call 188;refine Calls.quiet_of_same (C.out _)))
          have hw3:=hid (HX.out nq)
          have HQ:=hid (HE.out (m+nq) d3 hs3 H3)
          go_wp2
          go_roundw
          case rel=>exact ⟨k+1,i,(m+nq),d3,by go_num,rfl,by omega,by omega,by omega,hs3,hw3.out,HQ.out⟩
          case measure=>simp [intOf] <;> omega
         ·have C:=hid (fun w=>hg ▸ CL.out (G j) (G (j - 1)) w)
          have GO:=hid (show shiftUp ltN b (j+1) (swp d3 j (j - 1))=shiftUp ltN b (i+1) d2 by rw [← hR.out,up_go hle (by rw [← HG.out,← HG.out];exact hg)])
          have HS:=hid (fun q=>swap_row hwL.out (i:=j) (j:=j - 1) (by omega) (by omega) q (HG.out (j - 1)) (HG.out j))
          clear hg HX hwL HG hR
          go_wp2
          go_big_quiet (first | (go_at_call 188;refine Calls.quiet_of_same (C.out _)))
          go_wp2
          go_region
          all_goals go_wp2
          go_roundw
          case rel=>exact ⟨j+1,m+(nq+1),swp d3 j (j - 1),by go_num,by omega,by rw [size_swp];exact hs3,HS.out _,GO.out⟩
          case measure=>simp [intOf] <;> omega
        ·have H3:=hid (show d3=if 2≤b - i then shiftUp ltN b (i+1) d2 else d2 by rw [if_pos (by omega),← hR.out];exact (up_stop (.inl (by omega))).symm)
         have HQ:=hid (HE.out m d3 hs3 H3)
         go_wp2
         go_roundw
         case rel=>exact ⟨k+1,i,m,d3,by go_num,rfl,by omega,by omega,by omega,hs3,hwL.out,HQ.out⟩
         case measure=>simp [intOf] <;> omega
    ·obtain rfl:i=b:=by omega
     have hd:decide ((i:Int)<(i:Int))=false:=by simp
     have DN:=hid (show R=(dk,true) by rw [← HP.out,show 5 - k=(4 - k)+1 by omega];exact partialIns_end (by rw [← hR.out];exact (scanS_stop (.inl hlt)).symm) rfl)
     go_wp2
     go_big_quiet (first | (go_at_call 188;refine Calls.quiet_of_same (CL.out _ _ _)))
     go_wp2
     go_ret
     exact ⟨by rw [DN.out];rfl,_,by rw [DN.out];exact HX.out nq⟩
  ·have hk5i:¬ (k:Int)<5:=by omega
   have DN:=hid (show R=(dk,false) by rw [← HP.out,show 5 - k=0 by omega];rfl)
   go_wp2
   go_ret
   exact ⟨by rw [DN.out];rfl,_,by rw [DN.out];exact hw0.out⟩
end Srt
end Go.Proofs.YtjfmompgkkdliaaGreatDoor
