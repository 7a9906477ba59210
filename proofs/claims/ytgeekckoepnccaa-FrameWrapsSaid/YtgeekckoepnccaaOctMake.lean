/- The library's make, of bytes. -/
import Derived.Test.YtgeekckoepnccaaOctRead
import Derived.Laws.MakeOwn
namespace Go.Proofs.Ytgeekckoepnccaa.Oct
open Go.RowKit Mem

theorem made8 (k : Nat) : madeCells #[Value.int .u8 0] k = (List.replicate k (Value.int .u8 0)).toArray := by
  apply Array.ext'
  rw [List.toList_toArray]
  refine List.ext_getElem (by simp [madeCells]) fun j h1 h2 => ?_
  simp [madeCells, Nat.mod_one]
theorem cells_rep (k : Nat) : cells8 (List.replicate k 0) = List.replicate k (Value.int .u8 0) := by simp [cells8]
/-- The library's make, of bytes. -/
theorem make8 (k : Nat) (hk : k ≤ 100000) (W : World) : (Instr.makeSlice 25 (.int .i64 (k : Int)) (.int .i64 (k : Int))).run Try.prog W = .ok (.slice (some ⟨W.heap.size, 0, none⟩) k k) (W.alloc (.cells (Array.replicate k (Value.int .u8 0)) 5)) := by
  obtain ⟨i0, E0⟩ := elem8
  have h := run_make (P := Try.prog) (w := W) 25 5 i0 (.int .u8 0) E0.ht E0.hi E0.hz .i64 .i64 (k : Int) (k : Int) (by omega) (by omega) (by rw [E0.hby]; omega) (by omega)
  simp only [Int.toNat_natCast, E0.hsize, Nat.mul_one, Value.cells] at h
  rw [made8] at h
  rw [h]
  simp
end Go.Proofs.Ytgeekckoepnccaa.Oct
