/- bytes.Equal. -/
import Derived.Test.YtgeekckoepnccaaOctRead
namespace Go.Proofs.Ytgeekckoepnccaa.Oct
open Go.RowKit Mem

/-- bytes.Equal. -/
theorem equal8_any (v x : Value) (l m : List Nat) (w : World) (hv : U8s w v l) (hx : U8s w x m) : Calls Try.prog 35 #[v, x] w fun e w' => e = .returned (.bool (decide (l = m))) ∧ w = w' := by
  have t1 := text8 hv
  have t2 := text8 hx
  have t3 := txt_eq hv.2 hx.2
  clear hv hx
  generalize decide (l = m) = r at t3 ⊢
  go_enter Try.func35, Try.ntmps35
  go_wp2
  go_ret
  exact ⟨rfl, rfl⟩
end Go.Proofs.Ytgeekckoepnccaa.Oct
