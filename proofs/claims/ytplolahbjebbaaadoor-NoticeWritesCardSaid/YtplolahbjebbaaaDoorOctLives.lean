/- The laws' small living call. -/
import Derived.Test.YtplolahbjebbaaaDoorOctSized
namespace Go.Proofs.YtplolahbjebbaaaDoor.Oct
open Go.RowKit Mem Ahead

theorem wr_zero (w : World) {base : Nat} (hb : base ≤ w.heap.size) : Wr (w.alloc (.cells #[.slice none 0 0] 40)) base (.pointer (some ⟨w.heap.size, 0, none⟩)) [] (fun k => k = w.heap.size) := by
  refine ⟨w.heap.size, .slice none 0 0, rfl, hb, heap_alloc_new _ _, own_nil8 _ _, small_nil, (fun h => by cases h), ?_⟩
  funext k
  simp [Value.ownBlock]
theorem Wr.other {W W' : World} {base : Nat} {v : Value} {l : List Nat} {F G : Nat → Prop} (h : Wr W base v l F) (ho : Only G W W') (hd : ∀ k, F k → ¬ G k) : Wr W' base v l F :=
  h.keep fun k hk => ho.block k (h.lt k hk).2 (hd k hk)
end Go.Proofs.YtplolahbjebbaaaDoor.Oct
