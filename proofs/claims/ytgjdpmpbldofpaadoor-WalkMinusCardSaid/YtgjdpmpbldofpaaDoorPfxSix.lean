/- Words for memory: three new blocks of two cells. It speaks of no function of the program. -/
import Derived.Test.YtgjdpmpbldofpaaDoorPfxWalkC
namespace Go.Proofs.YtgjdpmpbldofpaaDoor.Pfx
open Go.RowKit Go.Sort

theorem cells_six (w : World) (x y z u : Value) (p q : Value) (t : TypeId) :
    (((w.alloc (.cells #[x, y] t)).alloc (.cells #[z, u] t)).alloc (.cells #[p, q] t)).cell? ⟨w.heap.size, 0, none⟩ = some x ∧ (((w.alloc (.cells #[x, y] t)).alloc (.cells #[z, u] t)).alloc (.cells #[p, q] t)).cell? ⟨w.heap.size, 1, none⟩ = some y ∧
    (((w.alloc (.cells #[x, y] t)).alloc (.cells #[z, u] t)).alloc (.cells #[p, q] t)).cell? ⟨w.heap.size + 1, 0, none⟩ = some z ∧ (((w.alloc (.cells #[x, y] t)).alloc (.cells #[z, u] t)).alloc (.cells #[p, q] t)).cell? ⟨w.heap.size + 1, 1, none⟩ = some u ∧
    (((w.alloc (.cells #[x, y] t)).alloc (.cells #[z, u] t)).alloc (.cells #[p, q] t)).cell? ⟨w.heap.size + 2, 0, none⟩ = some p ∧ (((w.alloc (.cells #[x, y] t)).alloc (.cells #[z, u] t)).alloc (.cells #[p, q] t)).cell? ⟨w.heap.size + 2, 1, none⟩ = some q := by
  refine ⟨?_, ?_, ?_, ?_, ?_, ?_⟩ <;> simp [go_sem]
theorem frozen_six (w : World) (x y z u : Value) (p q : Value) (t : TypeId) :
    (((w.alloc (.cells #[x, y] t)).alloc (.cells #[z, u] t)).alloc (.cells #[p, q] t)).frozen? ⟨w.heap.size + 1, 0, none⟩ = false ∧ (((w.alloc (.cells #[x, y] t)).alloc (.cells #[z, u] t)).alloc (.cells #[p, q] t)).frozen? ⟨w.heap.size + 1, 1, none⟩ = false ∧
    (((w.alloc (.cells #[x, y] t)).alloc (.cells #[z, u] t)).alloc (.cells #[p, q] t)).frozen? ⟨w.heap.size + 2, 0, none⟩ = false ∧ (((w.alloc (.cells #[x, y] t)).alloc (.cells #[z, u] t)).alloc (.cells #[p, q] t)).frozen? ⟨w.heap.size + 2, 1, none⟩ = false := by
  refine ⟨?_, ?_, ?_, ?_⟩ <;> simp [go_sem]
theorem below_new3 (w : World) (o o' o'' : Obj) : Below w.heap.size w (((w.alloc o).alloc o').alloc o'') := Below.tr (below_new2 _ _ _) (below_new _ _)
theorem keepsF {W w1 : World} (hb : Below W.heap.size W w1) {a : Addr} {v : Value} {x : Bool} (hc : W.cell? a = some v) (h : W.frozen? a = x) : w1.frozen? a = x := by
  rw [hb.frozen (block_lt_of_cell hc)]; exact h

end Go.Proofs.YtgjdpmpbldofpaaDoor.Pfx
