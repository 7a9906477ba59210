/- cmp.Less at uint32, and what rises. -/
import Derived.Test.YtlhdjdnflpilbaaGreatDoorH02
import Derived.Outline
import Derived.BigQuiet
import Derived.Deep.RegionHeld3
import Derived.Deep.DrawnRows
import Derived.Deep.QuietTactic
import Derived.WalkLawsBesides
namespace Go.Proofs.YtlhdjdnflpilbaaGreatDoor.Nums
open Go.RowKit Mem Rise
theorem cmpNaN_any (x : Nat) (w : World) : Calls Tryz.prog 144 #[.int .u32 x] w fun e w' => e = .returned (.bool false) ∧ w = w' := by
 go_enter Tryz.func144, Tryz.ntmps144
 go_wp2
 go_ret
 exact ⟨by simp, rfl⟩
theorem less_any (x y : Nat) (w : World) : Calls Tryz.prog 134 #[.int .u32 x, .int .u32 y] w fun e w' => e = .returned (.bool (decide ((x : Int) < (y : Int)))) ∧ w = w' := by
 have C := Go.Lib.hid cmpNaN_any
 go_enter Tryz.func134, Tryz.ntmps134
 go_wp2_with (go_at_call 144; refine (C.out _ _).mono ?_; rintro e w1 ⟨rfl, rfl⟩)
 go_ret
 exact ⟨by simp, rfl⟩
end Go.Proofs.YtlhdjdnflpilbaaGreatDoor.Nums
