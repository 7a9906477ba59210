/- The reference's Same, of one list. -/
import Derived.Test.YtgjdpmpbldofpaaDoorPfxSame
import Derived.Test.YtgjdpmpbldofpaaDoorNlriSortMath
namespace Go.Proofs.YtgjdpmpbldofpaaDoor.Wlk
open Go.RowKit Mem Pfx PR

theorem same_self (w : World) (v u : Value) (l : List Pf) (hv : Pfxs w v l) (hu : Pfxs w u l) : Calls Tryd.prog 7 #[v, u] w (Tells (.bool true) w) := by
  haveI : DecidableEq Pf := fun p q => decidable_of_iff _ (sameB_eq (p := p) (q := q))
  have h := refSameP_any v u l l w hv hu
  rw [decide_eq_true rfl] at h
  exact h
end Go.Proofs.YtgjdpmpbldofpaaDoor.Wlk
