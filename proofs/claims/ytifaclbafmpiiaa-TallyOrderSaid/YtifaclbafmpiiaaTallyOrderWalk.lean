/- TallyOrder's walk, paid. -/
import Derived.Test.YtifaclbafmpiiaaTalOrder
import Derived.Test.YtifaclbafmpiiaaTalLives
import Derived.Test.YtifaclbafmpiiaaTalRange
namespace Go.Proofs.Ytifaclbafmpiiaa.Tal
open Go.RowKit Mem
theorem order_walk (v : Value) (l : List Act) (w : World) (hv : Acts w v l) : Calls Try.prog 6 #[v] w (Tells (.bool true) w) :=
  order_of T face_T v l w hv (Go.Lib.hid new_any) (Go.Lib.hid fun v l F key up down W hk hT hu hd hl hm => plus_any v l F key up down _ W hk hT hu hd hl hm (by omega)) (Go.Lib.hid fun v l F key W hk hT => of_any v l F key W hk hT)
    (Go.Lib.hid fun v l F W hT => sum_any v l F W hT) (Go.Lib.hid lives_any)
end Go.Proofs.Ytifaclbafmpiiaa.Tal
