/- Part of the proof. -/
import Derived.Test.YtjfmompgkkdliaaGreatDoorH02
import Derived.BigQuiet
import Derived.BigRegion
import Derived.RegionTactic
open Go.Lib (hid)
set_option maxRecDepth 100000
set_option maxHeartbeats 40000000
namespace Go.Proofs.YtjfmompgkkdliaaGreatDoor
namespace Att
open Go.RowKit Mem Segm Oct
theorem refHas8 (h k:Int) (x1 x2 x3 x4 x5 x6 x7 x8:Value) (w:World) :
  Calls Tryz.prog 73 #[.agg #[.int .i64 h,x1,x2,x3,x4,x5,x6,x7,x8],.int .i64 k] w (Tells (.bool (hasB h k)) w):=by
 have HB:=hid (show Below w.heap.size w (w.alloc (.cells #[.int .i64 h,x1,x2,x3,x4,x5,x6,x7,x8] 29)) from (Below.refl _ w).alloc (Nat.le_refl _) _)
 obtain ⟨c0,-⟩:=(Box9.new w 29 (.int .i64 h) x1 x2 x3 x4 x5 x6 x7 x8).cells
 by_cases h0:k<0
 ·rw [hasB_low h0]
  have y0:decide (0≤k)=false:=decide_eq_false (by omega)
  go_enter Tryz.func73,Tryz.ntmps73
  go_wp2
  go_ret
  exact ⟨rfl,HB.out⟩
 ·have y0:(0:Int)≤k:=by omega
  by_cases h1:30≤k
  ·rw [hasB_high h1]
   have y1:decide (k<30)=false:=decide_eq_false (by omega)
   go_enter Tryz.func73,Tryz.ntmps73
   go_wp2
   go_ret
   exact ⟨rfl,HB.out⟩
  ·have y1:k<30:=by omega
   obtain ⟨m,rfl⟩:=Int.eq_ofNat_of_zero_le y0
   rw [hasB_in (by omega)]
   have ha:=and_one (h / 2 ^ m)
   generalize h / 2 ^ m % 2=r at ha
   go_enter Tryz.func73,Tryz.ntmps73
   go_wp2
   go_ret
   exact ⟨rfl,HB.out⟩
def hopB (a:Nat):Bool:=decide (a≠0) && decide (a≠4294967295) && decide (a / 268435456≠14)
theorem refHop8 (a:Nat) (w:World) (ha:a<4294967296):Calls Tryz.prog 124 #[.int .u32 a] w (Tells (.bool (hopB a)) w):=by
 have HB:=hid (Below.refl w.heap.size w)
 by_cases h0:a=0
 ·subst h0
  go_enter Tryz.func124,Tryz.ntmps124
  go_wp2
  go_ret
  exact ⟨rfl,HB.out⟩
 ·by_cases h1:a=4294967295
  ·subst h1
   go_enter Tryz.func124,Tryz.ntmps124
   go_wp2
   go_ret
   exact ⟨rfl,HB.out⟩
  ·have e:hopB a=decide (a / 268435456≠14):=by unfold hopB;rw [decide_eq_true h0,decide_eq_true h1];rfl
   rw [e]
   have y0:((a:Int) != 0)=true:=by simp;omega
   have y1:((a:Int) != 4294967295)=true:=by simp;omega
   have HQ:=hid (show ((a:Int) / 268435456 % 4294967296 != 14)=decide (a / 268435456≠14) by
    by_cases hq:a / 268435456=14
    ·rw [decide_eq_false (by simpa using hq)];simp;omega
    ·rw [decide_eq_true hq];simp;omega)
   clear e ha
   go_enter Tryz.func124,Tryz.ntmps124
   go_wp2
   go_ret
   exact ⟨by rw [← HQ.out];rfl,HB.out⟩
def flagsN (k:Int):Int:=if k=1∨k=2∨k=3∨k=5∨k=6 then 64 else if k=4 then 128 else if k=7∨k=8 then 192 else 0
theorem refFlags8 (k:Int) (w:World):Calls Tryz.prog 127 #[.int .i64 k] w (Tells (.int .i64 (flagsN k)) w):=by
 have HB:=hid (fun o=>show Below w.heap.size w (w.alloc o) from (Below.refl _ w).alloc (Nat.le_refl _) o)
 by_cases h0:k<1
 ·have e:flagsN k=0:=by unfold flagsN;rw [if_neg (by omega),if_neg (by omega),if_neg (by omega)]
  rw [e]
  go_enter Tryz.func127,Tryz.ntmps127
  go_wp2
  go_ret
  exact ⟨rfl,HB.out _⟩
 ·by_cases h1:8<k
  ·have e:flagsN k=0:=by unfold flagsN;rw [if_neg (by omega),if_neg (by omega),if_neg (by omega)]
   rw [e]
   have y0:decide (k<1)=false:=decide_eq_false h0
   go_enter Tryz.func127,Tryz.ntmps127
   go_wp2
   go_ret
   exact ⟨rfl,HB.out _⟩
  ·obtain ⟨m,rfl⟩:=Int.eq_ofNat_of_zero_le (show 0≤k by omega)
   have hm:m=1∨m=2∨m=3∨m=4∨m=5∨m=6∨m=7∨m=8:=by omega
   clear h0 h1
   rcases hm with rfl | rfl | rfl | rfl | rfl | rfl | rfl | rfl <;>
   ·go_enter Tryz.func127,Tryz.ntmps127
    go_wp2
    go_ret
    exact ⟨rfl,HB.out _⟩
end Att
namespace Att
open Go.RowKit Mem
def longB (k n:Nat):Bool:=if k=8 then decide (n % 4=0) && decide (n≤1020) else if k=2 then true else decide (n=if k=1 then 1 else if k=7 then 8 else if k=6 then 0 else 4)
theorem long8_any (k n:Nat) (w:World) (hk:1≤k) (hk8:k≤8) (hn:n≤1000000):Calls Tryz.prog 141 #[.int .i64 (k:Nat),.int .i64 (n:Nat)] w (Tells (.bool (longB k n)) w):=by
 have HB:=hid (fun o=>show Below w.heap.size w (w.alloc o) from (Below.refl _ w).alloc (Nat.le_refl _) o)
 have hm:k=1∨k=2∨k=3∨k=4∨k=5∨k=6∨k=7∨k=8:=by omega
 clear hk hk8
 by_cases h8:k=8
 ·subst h8
  clear hm
  have e:longB 8 n=(decide (n % 4=0) && decide (n≤1020)):=rfl
  rw [e]
  have t0:(((n:Nat):Int) % 4 == 0)=decide (n % 4=0):=by
   by_cases h:n % 4=0
   ·rw [decide_eq_true h];simp;omega
   ·rw [decide_eq_false h];simp;omega
  by_cases h1:n % 4=0
  ·rw [decide_eq_true h1]
   rw [decide_eq_true h1] at t0
   have HD:=hid (show decide ((n:Int)≤1020)=decide (n≤1020) by
    by_cases h:n≤1020
    ·rw [decide_eq_true h,decide_eq_true (by omega)]
    ·rw [decide_eq_false h,decide_eq_false (by omega)])
   go_enter Tryz.func141,Tryz.ntmps141
   go_wp2
   go_ret
   exact ⟨congrArg (fun b=>Ending.returned (Value.bool b)) (by rw [Bool.true_and];exact HD.out),HB.out _⟩
  ·rw [decide_eq_false h1]
   rw [decide_eq_false h1] at t0
   go_enter Tryz.func141,Tryz.ntmps141
   go_wp2
   go_ret
   exact ⟨rfl,HB.out _⟩
 ·have HN:=hid (show ∀ m:Nat,((m:Int) == (n:Int))=decide (n=m) from fun m=>by
   by_cases h:n=m
   ·subst h;simp
   ·rw [decide_eq_false h];simp;omega)
  rcases hm with rfl | rfl | rfl | rfl | rfl | rfl | rfl | rfl
  case inr.inr.inr.inr.inr.inr.inr=>exact absurd rfl h8
  all_goals
  ·go_enter Tryz.func141,Tryz.ntmps141
   go_wp2
   go_ret
   first
   | exact ⟨rfl,HB.out _⟩
   | exact ⟨congrArg (fun b=>Ending.returned (Value.bool b)) (HN.out _),HB.out _⟩
end Att
end Go.Proofs.YtjfmompgkkdliaaGreatDoor
