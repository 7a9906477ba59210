/- Part of the proof. -/
import Derived.Test.YtjfmompgkkdliaaGreatDoorH31
import Derived.Test.YtjfmompgkkdliaaGreatDoorH32
open Go.Lib (hid)
set_option maxRecDepth 100000
set_option maxHeartbeats 40000000
namespace Go.Proofs.YtjfmompgkkdliaaGreatDoor
namespace Srt
open Go.RowKit Go.Sort Mem Rise
def srt (d:Array Nat):Array Nat:=Sort.insertionSort ltN d 0 d.size
theorem srt_ordered (d:Array Nat):Ordered 0 d.size d (srt d):=insertionSort_holds swoN d 0 d.size (Nat.zero_le _) (Nat.le_refl _)
theorem srt_of {d d':Array Nat} (h:Ordered 0 d.size d d'):d'=srt d:=by
 have hanti:∀ x y,ltN x y=false→ltN y x=false→x=y:=fun x y h1 h2=>by
  unfold ltN at h1 h2
  simp only [decide_eq_false_iff_not] at h1 h2
  omega
 have h2:=srt_ordered d
 have e1:=sorted_unique_holds (lt:=ltN) swoN hanti d d' h.1 h.2
 have e2:=sorted_unique_holds (lt:=ltN) swoN hanti d (srt d) h2.1 h2.2
 exact Array.toList_inj.1 (e1.trans e2.symm)
def Sorted1 (blk:Nat) (D:Array Nat) (w:World) (e:Ending) (w':World):Prop:=e=.returned (.tuple #[])∧Hid (Left blk 0 D w w')
theorem bitLen_le (x:Nat):Lib.bitLen x≤64:=by
 have h:∀ f x,Lib.bitLenAux f x≤f:=by
  intro f
  induction f with
  | zero=>intro x;simp [Lib.bitLenAux]
  | succ f ih =>
   intro x
   unfold Lib.bitLenAux
   split
   ·omega
   ·have:=ih (x / 2);omega
 exact h 64 x
theorem sort_any (blk cap:Nat) (d:Array Nat) (w:World) (hH:Holds encN w blk 0 d) (hblk:blk<w.heap.size) (hsz:d.size<5000) :
  Calls Tryz.prog 176 #[.slice (some ⟨blk,0,none⟩) d.size cap] w (Sorted1 blk (srt d) w):=by
 have C0:∀ (limit:Nat),limit≤1000→Calls Tryz.prog 180 #[.slice (some ⟨blk,0,none⟩) d.size cap,.int .i64 0,.int .i64 d.size,.int .i64 limit] w (Sorted1 blk (srt d) w):=fun limit hl =>
  (pdq_any blk 0 cap d.size hsz (d.size+1) 0 d.size limit d w (by omega) rfl hH (Nat.zero_le _) (Nat.le_refl _) (.inl rfl) hblk hl).mono fun e w' ⟨he,d',hq,hL⟩=>⟨he,by rw [← srt_of hq.out];exact hL⟩
 have C:=hid C0
 have CB:=hid (fun w=>Tryz.bits_Len (d.size:Int) w (by omega) (by omega))
 have hB:=hid (bitLen_le (d.size:Int).toNat)
 generalize Lib.bitLen (d.size:Int).toNat=lim at CB hB
 clear hH C0
 go_enter Tryz.func176,Tryz.ntmps176
 go_wp2_with (first | (go_at_call 181;refine (CB.out _).mono ?_;rintro e w1 ⟨rfl,rfl⟩) | (go_at_call 180;refine (C.out lim (by have:=hB.out;omega)).mono ?_;rintro e w1 ⟨rfl,h1⟩))
 go_end0
 exact ⟨rfl,h1⟩
end Srt
end Go.Proofs.YtjfmompgkkdliaaGreatDoor
