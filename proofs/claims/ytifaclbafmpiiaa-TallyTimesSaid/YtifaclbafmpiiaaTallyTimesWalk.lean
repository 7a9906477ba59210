/- TallyTimes' walk, paid. -/
import Derived.Test.YtifaclbafmpiiaaTalTimes
import Derived.Test.YtifaclbafmpiiaaTalLives
namespace Go.Proofs.Ytifaclbafmpiiaa.Tal
open Go.RowKit Mem
theorem times_walk (a0 a1 b0 b1 : Int) (ha0 : -128 ≤ a0 ∧ a0 ≤ 127) (ha1 : -128 ≤ a1 ∧ a1 ≤ 127) (hb0 : -128 ≤ b0 ∧ b0 ≤ 127) (hb1 : -128 ≤ b1 ∧ b1 ≤ 127) (w : World) :
    Calls Try.prog 5 #[.agg #[.int .i8 a0, .int .i8 a1], .agg #[.int .i8 b0, .int .i8 b1]] w (Tells (.bool true) w) :=
  times_of a0 a1 b0 b1 w ha0 ha1 hb0 hb1 (fun x y W _ _ => far_any x y W) lives_any
end Go.Proofs.Ytifaclbafmpiiaa.Tal
