/- cmp.Less at uint32, and what rises. -/
import Derived.Test.YtifaclbafmpiiaaMem
import Derived.Test.YtifaclbafmpiiaaSetMath
import Derived.Outline
import Derived.BigQuiet
import Derived.Deep.RegionHeld3
import Derived.Deep.DrawnRows
import Derived.Deep.QuietTactic
import Derived.WalkLawsBesides
namespace Go.Proofs.Ytifaclbafmpiiaa.Nums
open Go.RowKit Mem Rise

theorem cmpNaN_any (x : Nat) (w : World) : Calls Try.prog 47 #[.int .u32 x] w fun e w' => e = .returned (.bool false) ∧ w = w' := by
  go_enter Try.func47, Try.ntmps47
  go_wp2
  go_ret
  exact ⟨by simp, rfl⟩
theorem less_any (x y : Nat) (w : World) : Calls Try.prog 37 #[.int .u32 x, .int .u32 y] w fun e w' => e = .returned (.bool (decide ((x : Int) < (y : Int)))) ∧ w = w' := by
  have C := Go.Lib.hid cmpNaN_any
  go_enter Try.func37, Try.ntmps37
  go_wp2_with (go_at_call 47; refine (C.out _ _).mono ?_; rintro e w1 ⟨rfl, rfl⟩)
  go_ret
  exact ⟨by simp, rfl⟩

theorem rising_lt {l : List Nat} (h : rising l) {s t a b : Nat} (hs : l[s]? = some a) (ht : l[t]? = some b) (hst : s < t) : a < b := by
  obtain ⟨h1, e1⟩ := List.getElem?_eq_some_iff.1 hs
  obtain ⟨h2, e2⟩ := List.getElem?_eq_some_iff.1 ht
  have := List.pairwise_iff_getElem.1 h s t h1 h2 hst
  rwa [e1, e2] at this

end Go.Proofs.Ytifaclbafmpiiaa.Nums
