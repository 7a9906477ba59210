/- A prefix among a law's arguments: an address and a length, each in its bounds. -/
import Derived.Test.YtpcahgnibdampaaG28
import Derived.Test.YtpcahgnibdampaaG05
namespace Go.Proofs.Ytpcahgnibdampaa.Tri
open Go.ChangeShapes Go.WideShapes Go.ChangeAt Go.RowKit Go.Joins Mem PR Pfx
end Go.Proofs.Ytpcahgnibdampaa.Tri
