/- What the rows that list the table of the powers of ten at their list's end give. -/
import Derived.Test.YtplolahbjebbaaaDoorLawFrame
import Derived.Test.YtplolahbjebbaaaDoorNtcText
import Derived.Stop.LaidErr
namespace Go.Proofs.YtplolahbjebbaaaDoor.Ntc
open Go.ChangeShapes Go.WideShapes Go.ChangeAt Go.RowKit Go.Joins

theorem cells20 : Tryd.prog.cellsOf 71 = 20 := by kernel_rfl
theorem cells64 : Tryd.prog.cellsOf 59 = 1 := by kernel_rfl
theorem powType : (Tryd.prog.globals[0]?).map (·.type) = some 71 := by kernel_rfl
theorem powSame : Rows.laid_internal_strconv_uint64pow10 (H := Unit) = Lib.tabData .u64 Lib.pow10Tab := by kernel_rfl
/-- Of a list that has the table at its head. -/
theorem pow_of {rest : List (String × DataW Unit)} {W : World} (h : laidMet Tryd.prog (("internal/strconv.uint64pow10", Rows.laid_internal_strconv_uint64pow10) :: rest) W) : Lib.TabIs Tryd.prog W "internal/strconv.uint64pow10" .u64 Lib.pow10Tab := by
  rw [powSame] at h
  exact Lib.tabIs_of_head gPow powType Tryd.underlying71 Tryd.underlying59 cells64 cells20 h
end Go.Proofs.YtplolahbjebbaaaDoor.Ntc
