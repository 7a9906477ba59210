/- The reference's Big: a number's lowest bytes. -/
import Derived.Test.YtplolahbjebbaaaDoorOctNew
namespace Go.Proofs.YtplolahbjebbaaaDoor.Oct
open Go.RowKit Mem Ahead

/-- The lowest k bytes of n, the highest one first. -/
def big (n : Nat) : Nat → List Nat
  | 0 => []
  | k + 1 => n / 256 ^ k % 256 :: big n k
theorem big_len (n : Nat) : ∀ k, (big n k).length = k
  | 0 => rfl
  | k + 1 => by simp [big, big_len n k]
theorem big_small (n : Nat) : ∀ k, Small (big n k)
  | 0 => small_nil
  | k + 1 => fun x hx => by
    simp only [big, List.mem_cons] at hx
    rcases hx with rfl | hx
    · omega
    · exact big_small n k x hx
theorem own_one8 {w : World} {base : Nat} (x : Value) (hb : base ≤ w.heap.size) : (w.alloc (.cells #[x] 5)).ownsRow base 5 1 (.slice (some ⟨w.heap.size, 0, none⟩) 1 1) 1 [x] :=
  ⟨rfl, .inr ⟨w.heap.size, 1, #[x], rfl, hb, heap_alloc_new _ _, Nat.le_refl _, by decide, rfl, rfl⟩⟩
end Go.Proofs.YtplolahbjebbaaaDoor.Oct
