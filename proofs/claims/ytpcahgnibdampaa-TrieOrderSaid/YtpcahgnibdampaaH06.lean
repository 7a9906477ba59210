/- The reference's At: where a prefix stands. The reference's Cut of rows; words for rows of three cells. The reference's Put of rows: a prefix that stands. -/
import Derived.Test.YtpcahgnibdampaaH05
import Derived.Outline
import Derived.BigQuiet
import Derived.Deep.RegionHeld3
import Derived.Laws.OwnMore
namespace Go.Proofs.Ytpcahgnibdampaa.Tri
open Go.RowKit Mem PR Pfx
theorem pf_apart {p q : Pf} (h : p ≠ q) : ((p.a : Int) == (q.a : Int)) = false ∨ p.a = q.a ∧ (p.n == q.n) = false := by
  by_cases ha : p.a = q.a
  · exact .inr ⟨ha, by simpa using fun e => h (pf_ext ha e)⟩
  · exact .inl (by simp; omega)
end Go.Proofs.Ytpcahgnibdampaa.Tri
namespace Go.Proofs.Ytpcahgnibdampaa.Tri
open Go.RowKit Mem PR Pfx
end Go.Proofs.Ytpcahgnibdampaa.Tri
namespace Go.Proofs.Ytpcahgnibdampaa.Tri
open Go.RowKit Mem PR Pfx
end Go.Proofs.Ytpcahgnibdampaa.Tri
