/- cmp.Less at uint32, and what rises. -/
import Derived.Test.YtcdbeljmniaofaaGreatDoorSetSame
import Derived.WalkLawsBesides
namespace Go.Proofs.YtcdbeljmniaofaaGreatDoor.Nums
open Go.RowKit Mem Rise

theorem cmpNaN_any (x : Nat) (w : World) : Calls Tryz.prog 77 #[.int .u32 x] w fun e w' => e = .returned (.bool false) ∧ w = w' := by
  go_enter Tryz.func77, Tryz.ntmps77
  go_wp2
  go_ret
  exact ⟨by simp, rfl⟩
theorem less_any (x y : Nat) (w : World) : Calls Tryz.prog 59 #[.int .u32 x, .int .u32 y] w fun e w' => e = .returned (.bool (decide ((x : Int) < (y : Int)))) ∧ w = w' := by
  have C := Go.Lib.hid cmpNaN_any
  go_enter Tryz.func59, Tryz.ntmps59
  go_wp2_with (go_at_call 77; refine (C.out _ _).mono ?_; rintro e w1 ⟨rfl, rfl⟩)
  go_ret
  exact ⟨by simp, rfl⟩

theorem rising_lt {l : List Nat} (h : rising l) {s t a b : Nat} (hs : l[s]? = some a) (ht : l[t]? = some b) (hst : s < t) : a < b := by
  obtain ⟨h1, e1⟩ := List.getElem?_eq_some_iff.1 hs
  obtain ⟨h2, e2⟩ := List.getElem?_eq_some_iff.1 ht
  have := List.pairwise_iff_getElem.1 h s t h1 h2 hst
  rwa [e1, e2] at this

end Go.Proofs.YtcdbeljmniaofaaGreatDoor.Nums
