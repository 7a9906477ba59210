/- The reference's Put of rows: a prefix that is new; Put as a whole. The reference's Above and Below. -/
import Derived.Test.YtpcahgnibdampaaH06
import Derived.Deep.DrawnRows
namespace Go.Proofs.Ytpcahgnibdampaa.Tri
open Go.RowKit Mem PR Pfx
attribute [local go_sem ↓] Go.wp_at_zero Go.wp_at_succ
end Go.Proofs.Ytpcahgnibdampaa.Tri
namespace Go.Proofs.Ytpcahgnibdampaa.Tri
open Go.RowKit Mem PR Pfx
attribute [local go_sem ↓] Go.wp_at_zero Go.wp_at_succ
theorem one_new2 {w : World} (x y : Value) (t : TypeId) : Row (w.alloc (.cells #[x, y] t)) 2 (.slice (some ⟨w.heap.size, 0, none⟩) 1 1) 1 [x, y] :=
  Row.of_own (base := 0) (e := t) ⟨rfl, .inr ⟨w.heap.size, 1, #[x, y], rfl, Nat.zero_le _, heap_alloc_new _ _, Nat.le_refl _, by decide, rfl, rfl⟩⟩
theorem above_len {l : List Ent} {p : Pf} : (aboveE l p).length ≤ l.length := by
  unfold aboveE
  rw [List.length_map]
  exact List.length_filter_le _ _
end Go.Proofs.Ytpcahgnibdampaa.Tri
