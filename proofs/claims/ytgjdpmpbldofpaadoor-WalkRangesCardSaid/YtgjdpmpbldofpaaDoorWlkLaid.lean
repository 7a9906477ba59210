/- What the rows that list the table of TrailingZeros32 give. -/
import Derived.Test.YtgjdpmpbldofpaaDoorLawFrameT
import Derived.Test.YtgjdpmpbldofpaaDoorWlkTz
import Derived.Stop.LaidErr
namespace Go.Proofs.YtgjdpmpbldofpaaDoor.Wlk
open Go.ChangeShapes Go.WideShapes Go.ChangeAt Go.RowKit Go.Joins

theorem cellsZ : Tryd.prog.cellsOf 73 = 32 := by kernel_rfl
theorem cells8z : Tryd.prog.cellsOf 5 = 1 := by kernel_rfl
theorem tzType : (Tryd.prog.globals[0]?).map (·.type) = some 73 := by kernel_rfl
theorem tzSame : Rows.laid_math_bits_deBruijn32tab (H := Unit) = Lib.tabData .u8 (Lib.deBruijn32tab.map (fun n : Nat => (n : Int))) := by kernel_rfl
theorem tabz_of {rest : List (String × DataW Unit)} {W : World} (h : laidMet Tryd.prog (("math/bits.deBruijn32tab", Rows.laid_math_bits_deBruijn32tab) :: rest) W) : TabZ W := by
  rw [tzSame] at h
  exact Lib.tabIs_of_head gTz tzType Tryd.underlying73 Tryd.underlying5 cells8z cellsZ h
end Go.Proofs.YtgjdpmpbldofpaaDoor.Wlk
