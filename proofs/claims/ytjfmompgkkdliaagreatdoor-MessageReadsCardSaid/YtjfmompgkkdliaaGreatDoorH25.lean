/- Part of the proof. -/
import Derived.Test.YtjfmompgkkdliaaGreatDoorH01
import Derived.Outline
import Derived.BigQuiet
import Derived.Deep.RegionHeld3
import Derived.Deep.DrawnRows
import Derived.Deep.QuietTactic
import Derived.WalkLawsBesides
open Go.Lib (hid)
set_option maxRecDepth 100000
set_option maxHeartbeats 40000000
namespace Go.Proofs.YtjfmompgkkdliaaGreatDoor
namespace Nums
open Go.RowKit Mem Rise
theorem cmpNaN_any (x:Nat) (w:World):Calls Tryz.prog 198 #[.int .u32 x] w fun e w'=>e=.returned (.bool false)∧w=w':=by
 go_enter Tryz.func198,Tryz.ntmps198
 go_wp2
 go_ret
 exact ⟨by simp,rfl⟩
theorem less_any (x y:Nat) (w:World):Calls Tryz.prog 188 #[.int .u32 x,.int .u32 y] w fun e w'=>e=.returned (.bool (decide ((x:Int)<(y:Int))))∧w=w':=by
 have C:=hid cmpNaN_any
 go_enter Tryz.func188,Tryz.ntmps188
 go_wp2_with (go_at_call 198;refine (C.out _ _).mono ?_;rintro e w1 ⟨rfl,rfl⟩)
 go_ret
 exact ⟨by simp,rfl⟩
end Nums
end Go.Proofs.YtjfmompgkkdliaaGreatDoor
