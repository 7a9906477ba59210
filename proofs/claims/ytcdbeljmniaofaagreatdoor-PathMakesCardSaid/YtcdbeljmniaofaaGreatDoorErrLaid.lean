/- What the rows that list the two errors of strconv give: the errors, the table of the powers of ten; and a world for their witness. -/
import Derived.Test.YtcdbeljmniaofaaGreatDoorLawFrame
import Derived.Test.YtcdbeljmniaofaaGreatDoorErrVars
import Derived.Test.YtcdbeljmniaofaaGreatDoorShelf2
import Derived.Stop.LaidErr
namespace Go.Proofs.YtcdbeljmniaofaaGreatDoor.Nums
open Go.ChangeShapes Go.WideShapes Go.ChangeAt Go.RowKit Go.Joins

theorem errStar : "*" ++ "errors.errorString" = "*errors.errorString" := by decide
theorem errRow (u : TypeId) (h : Tryz.prog.typeName? 3 u = some "*errors.errorString") : u = 144 :=
  typeName_ptr_named (nm := "errors.errorString") (by rw [errStar]; kernel_rfl) (by kernel_rfl) (by decide) u (by rw [errStar]; exact h)
theorem errCells : Tryz.prog.cellsOf 146 = 1 := by kernel_rfl
theorem strCells : Tryz.prog.cellsOf 9 = 1 := by kernel_rfl
theorem synType : (Tryz.prog.globals[2]?).map (·.type) = some 89 := by kernel_rfl
theorem ranType : (Tryz.prog.globals[3]?).map (·.type) = some 89 := by kernel_rfl
theorem cells20 : Tryz.prog.cellsOf 137 = 20 := by kernel_rfl
theorem cells64 : Tryz.prog.cellsOf 68 = 1 := by kernel_rfl
theorem powType : (Tryz.prog.globals[1]?).map (·.type) = some 137 := by kernel_rfl
theorem powSame : Rows.laid_internal_strconv_uint64pow10 (H := Unit) = Lib.tabData .u64 Lib.pow10Tab := by kernel_rfl

/-- Of a list that has the table at its head. -/
theorem pow_of {rest : List (String × DataW Unit)} {W : World} (h : laidMet Tryz.prog (("internal/strconv.uint64pow10", Rows.laid_internal_strconv_uint64pow10) :: rest) W) : Lib.TabIs Tryz.prog W "internal/strconv.uint64pow10" .u64 Lib.pow10Tab := by
  rw [powSame] at h
  exact Lib.tabIs_of_head gPow powType Tryz.underlying137 Tryz.underlying68 cells64 cells20 h
/-- Of a list of both errors. -/
theorem errs_of {W : World} (h : laidMet Tryz.prog [("strconv.ErrRange", Rows.laid_strconv_ErrRange), ("strconv.ErrSyntax", Rows.laid_strconv_ErrSyntax)] W) (hS : W.ShapedOpen Tryz.prog) : ErrVars W := by
  obtain ⟨a1, s1, h1, _⟩ := laid_sentinel h gRan ranType Tryz.underlying89 errRow Tryz.underlying144 Tryz.underlying146 rfl rfl Tryz.underlying9 errCells strCells
  obtain ⟨a2, s2, h2, _⟩ := laid_sentinel (laidMet.tail h) gSyn synType Tryz.underlying89 errRow Tryz.underlying144 Tryz.underlying146 rfl rfl Tryz.underlying9 errCells strCells
  exact ⟨⟨_, _, h2⟩, ⟨_, _, h1⟩, Tryz.laysM145.s1_3 W hS⟩

def rangeText : ByteArray := ⟨#[118, 97, 108, 117, 101, 32, 111, 117, 116, 32, 111, 102, 32, 114, 97, 110, 103, 101]⟩
def formText : ByteArray := ⟨#[105, 110, 118, 97, 108, 105, 100, 32, 115, 121, 110, 116, 97, 120]⟩
noncomputable def low : Nat := (World.holding Tryz.prog default ⟨#[], #[], []⟩).heap.size
def layErr (k : Nat) : Obj → Obj
  | .cells _ t frozen => .cells #[.iface 144 (.pointer (some ⟨k, 0, none⟩))] t frozen
  | o => o
/-- A world for the witness: the settled one, each listed variable holding what its initialiser lays. -/
noncomputable def errWorld (os : Os) : World :=
  let w := World.holding Tryz.prog os ⟨#[.cells #[.string rangeText] 146, .cells #[.string formText] 146], #[], []⟩
  { w with heap := ((((w.heap.modify 4 (Frame.layTable Rows.laid_math_bits_deBruijn32tab)).modify 5 (Frame.layTable Rows.laid_math_bits_deBruijn64tab)).modify 1 (Frame.layTable Rows.laid_internal_strconv_uint64pow10)).modify 3 (layErr low)).modify 2 (layErr (low + 1)) }
end Go.Proofs.YtcdbeljmniaofaaGreatDoor.Nums
