/- The reference's numbers of a value: of every four bytes one. -/
import Derived.Test.YtanmepgplpijkaaDoorH03
import Derived.Test.YtanmepgplpijkaaDoorH19
import Derived.Test.YtanmepgplpijkaaDoorH02
namespace Go.Proofs.YtanmepgplpijkaaDoor.Att
open Go.RowKit Mem Oct Nums
def quadsN (l : List Nat) (n : Nat) : List Nat := (List.range n).map fun k => val ((l.drop (4 * k)).take 4)
def quads (l : List Nat) : List Nat := quadsN l (l.length / 4)
theorem quadsN_len (l : List Nat) (n : Nat) : (quadsN l n).length = n := by simp [quadsN]
theorem quadsN_succ (l : List Nat) (n : Nat) : quadsN l (n + 1) = quadsN l n ++ [val ((l.drop (4 * n)).take 4)] := by
  unfold quadsN
  rw [List.range_succ, List.map_append]; rfl
end Go.Proofs.YtanmepgplpijkaaDoor.Att
