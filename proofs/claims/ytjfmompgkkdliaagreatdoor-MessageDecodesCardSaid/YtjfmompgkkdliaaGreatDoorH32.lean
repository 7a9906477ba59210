/- Part of the proof. -/
import Derived.Test.YtjfmompgkkdliaaGreatDoorH26
import Derived.Test.YtjfmompgkkdliaaGreatDoorH14
open Go.Lib (hid)
set_option maxRecDepth 100000
set_option maxHeartbeats 40000000
namespace Go.Proofs.YtjfmompgkkdliaaGreatDoor
namespace Srt
open Go.RowKit Go.Sort
theorem pdq_small (blk off cap limit:Nat) (d:Array Nat) (w:World) (hH:Holds encN w blk off d) (hsz:d.size≤12) :
  Calls Tryz.prog 180 #[.slice (some ⟨blk,off,none⟩) d.size cap,.int .i64 0,.int .i64 d.size,.int .i64 limit] w (Puts blk off (Sort.insertionSort ltN d 0 d.size) w):=by
 have C:=hid (insertion_any blk off cap 0 d.size d w hH (Nat.zero_le _) (Nat.le_refl _) (by omega))
 clear hH
 go_enter Tryz.func180,Tryz.ntmps180
 go_wp2
 refine wp_loop_rounds 1 ?_
 rw [rounds_succ]
 go_wp2_with (go_at_call 182;refine (C.out).mono ?_;rintro e w1 ⟨rfl,h1⟩;have H1:=hid h1;clear h1)
 refine bodyPost_ret (results_none rfl _ _ _) rfl ?_
 exact ⟨rfl,H1.out⟩
theorem sort_small (blk off cap:Nat) (d:Array Nat) (w:World) (hH:Holds encN w blk off d) (hsz:d.size≤12) :
  Calls Tryz.prog 176 #[.slice (some ⟨blk,off,none⟩) d.size cap] w (Puts blk off (Sort.insertionSort ltN d 0 d.size) w):=by
 have C:=hid (fun limit=>pdq_small blk off cap limit d w hH hsz)
 have CB:=hid (fun w=>Tryz.bits_Len (d.size:Int) w (by omega) (by omega))
 clear hH
 go_enter Tryz.func176,Tryz.ntmps176
 go_wp2_with (first | (go_at_call 181;refine (CB.out _).mono ?_;rintro e w1 ⟨rfl,rfl⟩) | (go_at_call 180;refine (C.out _).mono ?_;rintro e w1 ⟨rfl,h1⟩;have H1:=hid h1;clear h1))
 go_end0
 exact ⟨rfl,H1.out⟩
end Srt
end Go.Proofs.YtjfmompgkkdliaaGreatDoor
