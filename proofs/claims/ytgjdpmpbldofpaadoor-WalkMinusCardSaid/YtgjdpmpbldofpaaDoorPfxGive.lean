/- What gives prefixes in memory of its own. -/
import Derived.Test.YtgjdpmpbldofpaaDoorPfxRows
import Derived.Test.YtgjdpmpbldofpaaDoorPfxWalkC
namespace Go.Proofs.YtgjdpmpbldofpaaDoor.PR
open Go.RowKit Go.Sort Mem Pfx

theorem elemP : ∃ i, IsElem Tryd.prog 25 24 2 16 i (.agg #[.int .u32 0, .int .i64 0]) := IsElem.mk_ Tryd.underlying25 (by kernel_rfl) rfl (by decide)
/-- What a copy gives: prefixes in memory of its own. -/
def GivesP (l : List Pf) (w : World) (e : Ending) (w' : World) : Prop :=
  ∃ A c, e = .returned (.slice A l.length c) ∧ w'.ownsRow w.heap.size 24 2 (.slice A l.length c) l.length (pcells l) ∧ Below w.heap.size w w'
theorem own_blk2 {W : World} {base B : Nat} {t : TypeId} (hB : base ≤ B) (h : W.heap[B]? = some (.cells #[] t (0, 0))) : W.ownsRow base t 2 (.slice (some ⟨B, 0, none⟩) 0 0) 0 [] :=
  ⟨rfl, .inr ⟨B, 0, #[], rfl, hB, h, Nat.le_refl _, Nat.zero_le _, rfl, rfl⟩⟩
def good (p : Pf) : Bool := goodB p.a p.n
end Go.Proofs.YtgjdpmpbldofpaaDoor.PR
