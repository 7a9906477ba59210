/- OctetWrites: the law's walk, of every input. -/
import Derived.Test.YtkomelckmhnpeaaOctetWritesOk
import Derived.Test.YtkomelckmhnpeaaOctetWritesBig
namespace Go.Proofs.Ytkomelckmhnpeaa.Oct
open Go.RowKit Mem Ahead
theorem writes_walk (n0 n1 n2 long : Int) (v : Value) (l0 : List Nat) (w : World) (hv : U8s w v l0) :
    Calls Try.prog 4 #[.agg #[.int .i64 n0, .int .i64 n1, .int .i64 n2], v, .int .i64 long] w (Tells (.bool true) w) := by
  by_cases h : (l0.take 300).length ≤ 255
  · exact writes_ok n0 n1 n2 long v l0 w hv h
  · exact writes_big n0 n1 n2 long v l0 w hv h
end Go.Proofs.Ytkomelckmhnpeaa.Oct
