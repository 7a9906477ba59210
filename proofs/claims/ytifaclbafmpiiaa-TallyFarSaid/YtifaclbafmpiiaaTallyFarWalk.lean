/- TallyFar's walk, paid. -/
import Derived.Test.YtifaclbafmpiiaaTalFar
import Derived.Test.YtifaclbafmpiiaaTalLives
namespace Go.Proofs.Ytifaclbafmpiiaa.Tal
open Go.RowKit Mem
theorem far_walk (a0 a1 b0 b1 : Int) (ha0 : (Lit.int .i64 a0).wf = true) (ha1 : (Lit.int .i64 a1).wf = true) (hb0 : (Lit.int .i64 b0).wf = true) (hb1 : (Lit.int .i64 b1).wf = true) (w : World) :
    Calls Try.prog 4 #[.agg #[.int .i64 a0, .int .i64 a1], .agg #[.int .i64 b0, .int .i64 b1]] w (Tells (.bool true) w) :=
  far_of a0 a1 b0 b1 w ha0 ha1 hb0 hb1 (fun x y W _ _ => far_any x y W) (fun x y z u W _ _ _ _ => apart_any x y z u W) lives_any
end Go.Proofs.Ytifaclbafmpiiaa.Tal
