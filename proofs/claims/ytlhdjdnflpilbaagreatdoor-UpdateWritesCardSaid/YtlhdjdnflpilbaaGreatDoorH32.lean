/- The sort of numbers of 32 bits: the part whose least is the pivot. -/
import Derived.Test.YtlhdjdnflpilbaaGreatDoorH29
import Derived.Sort.WalkC
namespace Go.Proofs.YtlhdjdnflpilbaaGreatDoor.Srt
open Go.RowKit Go.Sort
def Gave (blk off : Nat) (r : Nat) (d' : Array Nat) (w : World) (e : Ending) (w' : World) : Prop := e = .returned (.int .i64 r) ∧ ∃ n, w' = putRow encN (Sort.ahead w n) blk off d'
set_option maxRecDepth 100000 in
set_option maxHeartbeats 16000000 in
theorem equal_part (blk off cap a b pivot : Nat) (d : Array Nat) (w : World) (hH : Holds encN w blk off d) (hap : a < pivot) (hpb : pivot < b) (hb : b ≤ d.size) (hsz : d.size < 1000000000) :
  Calls Tryz.prog 135 #[.slice (some ⟨blk, off, none⟩) d.size cap, .int .i64 a, .int .i64 b, .int .i64 pivot] w (Gave blk off (partitionEqual ltN d a b pivot).1 (partitionEqual ltN d a b pivot).2 w) := by
 have HH := Go.Lib.hid hH
 have CL := Go.Lib.hid less_q
 clear hH
 obtain ⟨G, hG, hcw, hfw⟩ := row_facts (m := 0) (dk := d) HH.out rfl (show w = putRow encN (Sort.ahead w 0) blk off d from (putRow_self _ _ _ _ _ HH.out).symm)
 have ja : a < d.size := by omega
 have jp : pivot < d.size := by omega
 have HG := Go.Lib.hid hG
 have HX := Go.Lib.hid (show ((w.drewN 1).setCell ⟨blk, off + a, none⟩ (.int .u32 (G pivot))).setCell ⟨blk, off + pivot, none⟩ (.int .u32 (G a)) = putRow encN (Sort.ahead w 1) blk off (swp d a pivot) by
  rw [HG.out, HG.out]
  have := swap_worldA encN w 0 1 blk off d a pivot (by omega) (by omega)
  rw [show putRow encN (Sort.ahead w 0) blk off d = w from putRow_self _ _ _ _ _ HH.out] at this
  exact this)
 clear hG HG
 go_enter Tryz.func135, Tryz.ntmps135
 have hne : a ≠ pivot := by omega
 go_wp2
 go_region
 all_goals go_wp2
 go_loopw [9, 10] (fun vi vj wr => ∃ (i j m : Nat) (dk : Array Nat), vi = .int .i64 i ∧ vj = .int .i64 j ∧ a < i ∧ i ≤ j + 1 ∧ j < b ∧ dk.size = d.size ∧ Hid (wr = putRow encN (Sort.ahead w m) blk off dk) ∧ Hid (partEqLoop ltN a i j dk = partEqLoop ltN a (a + 1) (b - 1) (swp d a pivot))) (fun vi vj _ => (intOf vj).toNat + 1 - (intOf vi).toNat)
 case atStart => exact ⟨a + 1, b - 1, 1, swp d a pivot, by go_num, by congr 1; omega, by omega, by omega, by omega, by rw [size_swp], HX.out, rfl⟩
 case round =>
  obtain ⟨i, j, m, dk, rfl, rfl, hai, hij, hjb, hs, hw, hR⟩ := hrel
  go_wp2
  go_loopw [9] (fun vv wr => ∃ (i2 mi2 : Nat), vv = .int .i64 i2 ∧ i ≤ i2 ∧ i2 ≤ j + 1 ∧ Hid (wr = putRow encN (Sort.ahead w mi2) blk off dk) ∧ Hid (scanUp (fun x => !ltN dk[a]! x) dk j (i2) = scanUp (fun x => !ltN dk[a]! x) dk j (i))) (fun vv _ => j + 1 - (intOf vv).toNat)
  case atStart => exact ⟨i, m, rfl, Nat.le_refl _, hij, hw, rfl⟩
  case round =>
   clear hw
   obtain ⟨i2, mi2, rfl, hsi2, hbi2, hwi2, hRi2⟩ := hrel
   obtain ⟨G, hG, hcw, hfw⟩ := row_facts HH.out hs hwi2.out
   have HG := Go.Lib.hid hG
   clear hG
   have HX := Go.Lib.hid (fun q => show wr.drewN q = putRow encN (Sort.ahead w (mi2 + q)) blk off dk by rw [hwi2.out]; exact putRow_drewN _ _ _ _ _ _ _)
   have ja : a < d.size := by omega
   by_cases hle : i2 ≤ j
   ·have jv : i2 < d.size := by omega
    cases hg : ltN (G a) (G i2)
    ·have C := Go.Lib.hid (fun w => hg ▸ CL.out (G a) (G i2) w)
     have GO := Go.Lib.hid (show scanUp (fun x => !ltN dk[a]! x) dk j (i2 + 1) = scanUp (fun x => !ltN dk[a]! x) dk j (i) by rw [← hRi2.out, scanUp_go (fun x => !ltN dk[a]! x) dk j i2 hle (by show (!ltN dk[a]! dk[i2]!) = true; rw [← HG.out, ← HG.out, hg] <;> rfl)])
     clear hg
     go_wp2
     go_big_quiet (first | (go_at_call 134; refine Calls.quiet_of_same (C.out _)))
     go_wp2
     go_roundw
     case rel => exact ⟨i2 + 1, mi2 + nq, by go_num, by omega, by omega, HX.out _, GO.out⟩
     case measure => simp [intOf] <;> omega
    ·have HI := Go.Lib.hid (show i2 = scanUp (fun x => !ltN dk[a]! x) dk j (i) by rw [← hRi2.out, scanUp_end (fun x => !ltN dk[a]! x) dk j i2 (.inr (by show (!ltN dk[a]! dk[i2]!) = false; rw [← HG.out, ← HG.out, hg] <;> rfl))])
     have C := Go.Lib.hid (fun w => hg ▸ CL.out (G a) (G i2) w)
     clear hg
     go_wp2
     go_big_quiet (first | (go_at_call 134; refine Calls.quiet_of_same (C.out _)))
     go_wp2
     have hwq := HX.out nq
     replace hwq := Go.Lib.hid hwq
     clear HX hcw hfw HG hRi2 hwi2
     generalize wr.drewN nq = wq at hwq ⊢
     generalize mi2 + nq = mq at hwq
     clear wr
     go_loopw [10] (fun vv wr => ∃ (j2 mj2 : Nat), vv = .int .i64 j2 ∧ j2 ≤ j ∧ i2 ≤ j2 + 1 ∧ Hid (wr = putRow encN (Sort.ahead w mj2) blk off dk) ∧ Hid (scanDown (fun x => ltN dk[a]! x) dk i2 (j2) = scanDown (fun x => ltN dk[a]! x) dk i2 (j))) (fun vv _ => (intOf vv).toNat)
     case atStart => exact ⟨j, mq, rfl, Nat.le_refl _, by omega, hwq, rfl⟩
     case round =>
      clear hwq
      obtain ⟨j2, mj2, rfl, hsj2, hbj2, hwj2, hRj2⟩ := hrel
      obtain ⟨G, hG, hcw, hfw⟩ := row_facts HH.out hs hwj2.out
      have HG := Go.Lib.hid hG
      clear hG
      have HX := Go.Lib.hid (fun q => show wr.drewN q = putRow encN (Sort.ahead w (mj2 + q)) blk off dk by rw [hwj2.out]; exact putRow_drewN _ _ _ _ _ _ _)
      have ja : a < d.size := by omega
      by_cases hle : i2 ≤ j2
      ·have jv : j2 < d.size := by omega
       cases hg : ltN (G a) (G j2)
       ·have HJ := Go.Lib.hid (show j2 = scanDown (fun x => ltN dk[a]! x) dk i2 (j) by rw [← hRj2.out, scanDown_end (fun x => ltN dk[a]! x) dk i2 j2 (.inr (by show ltN dk[a]! dk[j2]! = false; rw [← HG.out, ← HG.out, hg] <;> rfl))])
        have C := Go.Lib.hid (fun w => hg ▸ CL.out (G a) (G j2) w)
        clear hg
        go_wp2
        go_big_quiet (first | (go_at_call 134; refine Calls.quiet_of_same (C.out _)))
        go_wp2
        have hwq := HX.out nq
        replace hwq := Go.Lib.hid hwq
        clear HX hcw hfw HG hRj2 hwj2
        generalize wr.drewN nq = wq at hwq ⊢
        generalize mj2 + nq = mq at hwq
        clear wr
        have hgt : ¬ j2 < i2 := by omega
        obtain ⟨G, hG, hcw, hfw⟩ := row_facts HH.out hs hwq.out
        have HG := Go.Lib.hid hG
        clear hG
        have k1 : i2 < d.size := by omega
        have k2 : j2 < d.size := by omega
        have hlt := scans_lt ltN a i j dk (by omega) HI.out HJ.out (by omega)
        have hne : i2 ≠ j2 := by omega
        have GO := Go.Lib.hid (show partEqLoop ltN a (i2 + 1) (j2 - 1) (swp dk i2 j2) = partEqLoop ltN a (a + 1) (b - 1) (swp d a pivot) by rw [← hR.out]; exact (partEq_go ltN a i j dk HI.out HJ.out (by omega)).symm)
        have hgt2 : ¬ (j2 : Int) < (i2 : Int) := by omega
        go_wp2
        go_region
        all_goals go_wp2
        go_roundw
        case rel => exact ⟨i2 + 1, j2 - 1, mq + 1, swp dk i2 j2, by go_num, by congr 1; omega, by omega, by omega, by omega, by rw [size_swp]; exact hs, by
         unfold Hid
         rw [hwq.out, HG.out, HG.out]
         exact swap_worldA _ w mq 1 blk off dk i2 j2 (by omega) (by omega), GO.out⟩
        case measure => simp [intOf] <;> omega
       ·have C := Go.Lib.hid (fun w => hg ▸ CL.out (G a) (G j2) w)
        have GO := Go.Lib.hid (show scanDown (fun x => ltN dk[a]! x) dk i2 (j2 - 1) = scanDown (fun x => ltN dk[a]! x) dk i2 (j) by rw [← hRj2.out, scanDown_go (fun x => ltN dk[a]! x) dk i2 j2 hle (by omega) (by show ltN dk[a]! dk[j2]! = true; rw [← HG.out, ← HG.out, hg] <;> rfl)])
        clear hg
        go_wp2
        go_big_quiet (first | (go_at_call 134; refine Calls.quiet_of_same (C.out _)))
        go_wp2
        go_roundw
        case rel => exact ⟨j2 - 1, mj2 + nq, by congr 1; omega, by omega, by omega, HX.out _, GO.out⟩
        case measure => simp [intOf] <;> omega
      ·have HJ := Go.Lib.hid (show j2 = scanDown (fun x => ltN dk[a]! x) dk i2 (j) by rw [← hRj2.out, scanDown_end (fun x => ltN dk[a]! x) dk i2 j2 (.inl hle)])
       have hd : decide ((i2 : Int) ≤ (j2 : Int)) = false := by simp; omega
       go_wp2
       go_big_quiet (first | (go_at_call 134; refine Calls.quiet_of_same (CL.out _ _ _)))
       go_wp2
       have hwq := HX.out nq
       replace hwq := Go.Lib.hid hwq
       clear HX hcw hfw HG hRj2 hwj2
       generalize wr.drewN nq = wq at hwq ⊢
       generalize mj2 + nq = mq at hwq
       clear wr
       have hgt : j2 < i2 := by omega
       have DN := Go.Lib.hid (show partitionEqual ltN d a b pivot = (i2, dk) by unfold partitionEqual; rw [← hR.out]; exact partEq_break ltN a i j dk HI.out HJ.out hgt)
       go_wp2
       go_ret
       exact ⟨by rw [DN.out]; rfl, _, by rw [DN.out]; exact hwq.out⟩
   ·have HI := Go.Lib.hid (show i2 = scanUp (fun x => !ltN dk[a]! x) dk j (i) by rw [← hRi2.out, scanUp_end (fun x => !ltN dk[a]! x) dk j i2 (.inl hle)])
    have hd : decide ((i2 : Int) ≤ (j : Int)) = false := by simp; omega
    go_wp2
    go_big_quiet (first | (go_at_call 134; refine Calls.quiet_of_same (CL.out _ _ _)))
    go_wp2
    have hwq := HX.out nq
    replace hwq := Go.Lib.hid hwq
    clear HX hcw hfw HG hRi2 hwi2
    generalize wr.drewN nq = wq at hwq ⊢
    generalize mi2 + nq = mq at hwq
    clear wr
    go_loopw [10] (fun vv wr => ∃ (j2 mj2 : Nat), vv = .int .i64 j2 ∧ j2 ≤ j ∧ i2 ≤ j2 + 1 ∧ Hid (wr = putRow encN (Sort.ahead w mj2) blk off dk) ∧ Hid (scanDown (fun x => ltN dk[a]! x) dk i2 (j2) = scanDown (fun x => ltN dk[a]! x) dk i2 (j))) (fun vv _ => (intOf vv).toNat)
    case atStart => exact ⟨j, mq, rfl, Nat.le_refl _, by omega, hwq, rfl⟩
    case round =>
     clear hwq
     obtain ⟨j2, mj2, rfl, hsj2, hbj2, hwj2, hRj2⟩ := hrel
     obtain ⟨G, hG, hcw, hfw⟩ := row_facts HH.out hs hwj2.out
     have HG := Go.Lib.hid hG
     clear hG
     have HX := Go.Lib.hid (fun q => show wr.drewN q = putRow encN (Sort.ahead w (mj2 + q)) blk off dk by rw [hwj2.out]; exact putRow_drewN _ _ _ _ _ _ _)
     have ja : a < d.size := by omega
     by_cases hle : i2 ≤ j2
     ·exfalso; omega
     ·have HJ := Go.Lib.hid (show j2 = scanDown (fun x => ltN dk[a]! x) dk i2 (j) by rw [← hRj2.out, scanDown_end (fun x => ltN dk[a]! x) dk i2 j2 (.inl hle)])
      have hd : decide ((i2 : Int) ≤ (j2 : Int)) = false := by simp; omega
      go_wp2
      go_big_quiet (first | (go_at_call 134; refine Calls.quiet_of_same (CL.out _ _ _)))
      go_wp2
      have hwq := HX.out nq
      replace hwq := Go.Lib.hid hwq
      clear HX hcw hfw HG hRj2 hwj2
      generalize wr.drewN nq = wq at hwq ⊢
      generalize mj2 + nq = mq at hwq
      clear wr
      have hgt : j2 < i2 := by omega
      have DN := Go.Lib.hid (show partitionEqual ltN d a b pivot = (i2, dk) by unfold partitionEqual; rw [← hR.out]; exact partEq_break ltN a i j dk HI.out HJ.out hgt)
      go_wp2
      go_ret
      exact ⟨by rw [DN.out]; rfl, _, by rw [DN.out]; exact hwq.out⟩
end Go.Proofs.YtlhdjdnflpilbaaGreatDoor.Srt
