/- A box of three cells in memory, and one of four. It speaks of no function of the program. -/
import Derived.Test.YtgeekckoepnccaaOctMem
import Derived.Lib.SmallJoins
namespace Go.Proofs.Ytgeekckoepnccaa.Att
open Go.RowKit Mem Oct

/-- A box of three cells. -/
structure Box3 (W : World) (B : Nat) (t : TypeId) (x y z : Value) : Prop where
  blk : W.heap[B]? = some (.cells #[x, y, z] t (0, 0))
section
variable {W W' : World} {B : Nat} {t : TypeId} {x y z : Value}
theorem Box3.lt (h : Box3 W B t x y z) : B < W.heap.size := (Array.getElem?_eq_some_iff.1 h.blk).1
theorem Box3.keep (h : Box3 W B t x y z) (hb : Below W.heap.size W W') : Box3 W' B t x y z := ⟨(hb.block B h.lt).trans h.blk⟩
theorem Box3.cells (h : Box3 W B t x y z) : W.cell? ⟨B, 0, none⟩ = some x ∧ W.cell? ⟨B, 1, none⟩ = some y ∧ W.cell? ⟨B, 2, none⟩ = some z := by
  have hb := h.blk
  simp [World.cell?, hb]
theorem Box3.free (h : Box3 W B t x y z) (i : Nat) : W.frozen? ⟨B, i, none⟩ = false := Go.Joins.unfrozen_of_block h.blk i
theorem Box3.new (W : World) (t : TypeId) (x y z : Value) : Box3 (W.alloc (.cells #[x, y, z] t)) W.heap.size t x y z := ⟨heap_alloc_new _ _⟩
theorem Box3.set0 (h : Box3 W B t x y z) (v : Value) : Box3 (W.setCell ⟨B, 0, none⟩ v) B t v y z := ⟨by rw [Go.Joins.block_setCell h.blk]; rfl⟩
theorem Box3.set1 (h : Box3 W B t x y z) (v : Value) : Box3 (W.setCell ⟨B, 1, none⟩ v) B t x v z := ⟨by rw [Go.Joins.block_setCell h.blk]; rfl⟩
theorem Box3.set2 (h : Box3 W B t x y z) (v : Value) : Box3 (W.setCell ⟨B, 2, none⟩ v) B t x y v := ⟨by rw [Go.Joins.block_setCell h.blk]; rfl⟩
theorem Box3.far {C i : Nat} (h : Box3 W B t x y z) (hne : B ≠ C) (v : Value) : Box3 (W.setCell ⟨C, i, none⟩ v) B t x y z := ⟨(Go.RowKit.Below.heap_setCell _ _ _ _ hne).trans h.blk⟩
theorem Box3.below (h : Box3 W B t x y z) (hb : ∀ k, k = B → W'.heap[k]? = W.heap[k]?) : Box3 W' B t x y z := ⟨(hb B rfl).trans h.blk⟩
end
/-- What a box of three tells when it is laid anew. -/
def three (W : World) (B : Nat) (x y z : Value) : World := ((W.setCell ⟨B, 0, none⟩ x).setCell ⟨B, 1, none⟩ y).setCell ⟨B, 2, none⟩ z
theorem three_off (W : World) (B : Nat) (x y z : Value) : (∀ k, k ≠ B → (three W B x y z).heap[k]? = W.heap[k]?) ∧ W.heap.size ≤ (three W B x y z).heap.size := by
  refine ⟨fun k hk => ?_, by simp [three]⟩
  have hne : ∀ i : Nat, k ≠ (⟨B, i, none⟩ : Addr).block := fun i => hk
  unfold three
  simp only [Go.RowKit.Below.heap_setCell _ _ _ _ (hne _)]
theorem three_low {w W : World} {n : Nat} (h : Below n w W) (B : Nat) (hB : n ≤ B) (x y z : Value) : Below n w (three W B x y z) := by
  unfold three
  exact ((h.setCell (p := ⟨B, 0, none⟩) hB x).setCell (p := ⟨B, 1, none⟩) hB y).setCell (p := ⟨B, 2, none⟩) hB z
theorem Box3.laid {W : World} {B : Nat} {t : TypeId} {x y z : Value} (h : Box3 W B t x y z) (x' y' z' : Value) : Box3 (three W B x' y' z') B t x' y' z' := ((h.set0 x').set1 y').set2 z'
/-- A box of four cells. -/
structure Box4 (W : World) (B : Nat) (t : TypeId) (x y z u : Value) : Prop where
  blk : W.heap[B]? = some (.cells #[x, y, z, u] t (0, 0))
section
variable {W W' : World} {B : Nat} {t : TypeId} {x y z u : Value}
theorem Box4.lt (h : Box4 W B t x y z u) : B < W.heap.size := (Array.getElem?_eq_some_iff.1 h.blk).1
theorem Box4.keep (h : Box4 W B t x y z u) (hb : Below W.heap.size W W') : Box4 W' B t x y z u := ⟨(hb.block B h.lt).trans h.blk⟩
theorem Box4.cells (h : Box4 W B t x y z u) : W.cell? ⟨B, 0, none⟩ = some x ∧ W.cell? ⟨B, 1, none⟩ = some y ∧ W.cell? ⟨B, 2, none⟩ = some z ∧ W.cell? ⟨B, 3, none⟩ = some u := by
  have hb := h.blk
  simp [World.cell?, hb]
theorem Box4.free (h : Box4 W B t x y z u) (i : Nat) : W.frozen? ⟨B, i, none⟩ = false := Go.Joins.unfrozen_of_block h.blk i
theorem Box4.new (W : World) (t : TypeId) (x y z u : Value) : Box4 (W.alloc (.cells #[x, y, z, u] t)) W.heap.size t x y z u := ⟨heap_alloc_new _ _⟩
theorem Box4.set0 (h : Box4 W B t x y z u) (v : Value) : Box4 (W.setCell ⟨B, 0, none⟩ v) B t v y z u := ⟨by rw [Go.Joins.block_setCell h.blk]; rfl⟩
theorem Box4.set1 (h : Box4 W B t x y z u) (v : Value) : Box4 (W.setCell ⟨B, 1, none⟩ v) B t x v z u := ⟨by rw [Go.Joins.block_setCell h.blk]; rfl⟩
theorem Box4.set2 (h : Box4 W B t x y z u) (v : Value) : Box4 (W.setCell ⟨B, 2, none⟩ v) B t x y v u := ⟨by rw [Go.Joins.block_setCell h.blk]; rfl⟩
theorem Box4.set3 (h : Box4 W B t x y z u) (v : Value) : Box4 (W.setCell ⟨B, 3, none⟩ v) B t x y z v := ⟨by rw [Go.Joins.block_setCell h.blk]; rfl⟩
theorem Box4.far {C i : Nat} (h : Box4 W B t x y z u) (hne : B ≠ C) (v : Value) : Box4 (W.setCell ⟨C, i, none⟩ v) B t x y z u := ⟨(Go.RowKit.Below.heap_setCell _ _ _ _ hne).trans h.blk⟩
theorem Box4.below (h : Box4 W B t x y z u) (hb : ∀ k, k = B → W'.heap[k]? = W.heap[k]?) : Box4 W' B t x y z u := ⟨(hb B rfl).trans h.blk⟩
end
/-- What a box of four tells when it is laid anew. -/
def four (W : World) (B : Nat) (x y z u : Value) : World := (((W.setCell ⟨B, 0, none⟩ x).setCell ⟨B, 1, none⟩ y).setCell ⟨B, 2, none⟩ z).setCell ⟨B, 3, none⟩ u
theorem four_off (W : World) (B : Nat) (x y z u : Value) : (∀ k, k ≠ B → (four W B x y z u).heap[k]? = W.heap[k]?) ∧ W.heap.size ≤ (four W B x y z u).heap.size := by
  refine ⟨fun k hk => ?_, by simp [four]⟩
  have hne : ∀ i : Nat, k ≠ (⟨B, i, none⟩ : Addr).block := fun i => hk
  unfold four
  simp only [Go.RowKit.Below.heap_setCell _ _ _ _ (hne _)]
theorem four_low {w W : World} {n : Nat} (h : Below n w W) (B : Nat) (hB : n ≤ B) (x y z u : Value) : Below n w (four W B x y z u) := by
  unfold four
  exact (((h.setCell (p := ⟨B, 0, none⟩) hB x).setCell (p := ⟨B, 1, none⟩) hB y).setCell (p := ⟨B, 2, none⟩) hB z).setCell (p := ⟨B, 3, none⟩) hB u
theorem Box4.laid {W : World} {B : Nat} {t : TypeId} {x y z u : Value} (h : Box4 W B t x y z u) (x' y' z' u' : Value) : Box4 (four W B x' y' z' u') B t x' y' z' u' := (((h.set0 x').set1 y').set2 z').set3 u'
end Go.Proofs.Ytgeekckoepnccaa.Att
