/- The library's variables: both errors of strconv, and the bound of the byte search. -/
import Derived.Test.YtcdbeljmniaofaaGreatDoorNumText
import Derived.WalkSmall
import Derived.Lib.ConvBytes
namespace Go.Proofs.YtcdbeljmniaofaaGreatDoor.Nums
open Go.RowKit Mem Pfx Dec

/-- What is asked of the library's variables: both errors are there, and the bound of the byte search. -/
structure ErrVars (w : World) : Prop where
  syn : ∃ tp p, w.var? Tryz.prog "strconv.ErrSyntax" = some #[.iface tp p]
  ran : ∃ tp p, w.var? Tryz.prog "strconv.ErrRange" = some #[.iface tp p]
  top : ∃ m, w.cell? ⟨0, 0, none⟩ = some (.int .i64 m)
theorem gSyn : Tryz.prog.globalNamed "strconv.ErrSyntax" = some 2 := by kernel_rfl
theorem gRan : Tryz.prog.globalNamed "strconv.ErrRange" = some 3 := by kernel_rfl
theorem ErrVars.keep {w w' : World} (h : ErrVars w) (hb : Below w.heap.size w w') : ErrVars w' := by
  obtain ⟨⟨t1, p1, h1⟩, ⟨t2, p2, h2⟩, ⟨m, h3⟩⟩ := h
  have c1 := World.var?_cell gSyn h1 0
  have c2 := World.var?_cell gRan h2 0
  exact ⟨⟨t1, p1, var?_below hb gSyn (block_lt_of_cell (by rw [c1]; rfl)) h1⟩, ⟨t2, p2, var?_below hb gRan (block_lt_of_cell (by rw [c2]; rfl)) h2⟩, ⟨m, (hb.cell (block_lt_of_cell h3)).trans h3⟩⟩

end Go.Proofs.YtcdbeljmniaofaaGreatDoor.Nums
