/- What grows a row of prefixes that is one's own: it turns the row's block alone. It speaks of no function of the program. -/
import Derived.Test.YtgjdpmpbldofpaaDoorWlkMem
namespace Go.Proofs.YtgjdpmpbldofpaaDoor.Wlk
open Go.RowKit Mem Pfx PR Oct

/-- It gives the longer row; of the older blocks only the row's has turned. -/
def GrowsP (base : Nat) (v : Value) (N : Nat) (L : List Pf) (W : World) (e : Ending) (w' : World) : Prop :=
  ∃ A c, e = .returned (.slice A N c) ∧ w'.ownsRow base 24 2 (.slice A N c) N (pcells L) ∧ W.grownBy w' v.ownBlock ∧ ((Value.slice A N c).ownBlock = v.ownBlock ∨ ∃ g, (Value.slice A N c).ownBlock = some g ∧ W.heap.size ≤ g)
theorem grown_below {W W' : World} (h : Below W.heap.size W W') (r : Option Nat) : W.grownBy W' r := ⟨h.os, h.tape, h.output, h.size, fun k hk _ => h.block k hk⟩
theorem grown_trans {a b c : World} {r s : Option Nat} (h : a.grownBy b r) (k : b.grownBy c s) (hs : s = r ∨ ∃ g, s = some g ∧ a.heap.size ≤ g) : a.grownBy c r := by
  refine ⟨k.os.trans h.os, k.tape.trans h.tape, k.output.trans h.output, Nat.le_trans h.size k.size, fun i hi hr => ?_⟩
  refine (k.block i (Nat.lt_of_lt_of_le hi h.size) ?_).trans (h.block i hi hr)
  rcases hs with rfl | ⟨g, rfl, hg⟩
  · exact hr
  · intro e
    injection e with e
    omega
theorem grown_cell {W W' : World} {r : Option Nat} (h : W.grownBy W' r) {p : Addr} (hp : p.block < W.heap.size) (hr : some p.block ≠ r) : W'.cell? p = W.cell? p := World.cell?_of_block (w := W) (h.block p.block hp hr)
theorem grown_frozen {W W' : World} {r : Option Nat} (h : W.grownBy W' r) {p : Addr} (hp : p.block < W.heap.size) (hr : some p.block ≠ r) : W'.frozen? p = W.frozen? p := World.frozen?_of_block (w := W) (h.block p.block hp hr)
theorem own_blk_lt {W : World} {base n : Nat} {v : Value} {e : TypeId} {size : Nat} {xs : List Value} (h : W.ownsRow base e size v n xs) {g : Nat} (hg : v.ownBlock = some g) : g < W.heap.size := (h.lt g hg).2
theorem own_blk_ge {W : World} {base n : Nat} {v : Value} {e : TypeId} {size : Nat} {xs : List Value} (h : W.ownsRow base e size v n xs) {g : Nat} (hg : v.ownBlock = some g) : base ≤ g := (h.lt g hg).1
theorem own_not {W : World} {base n : Nat} {v : Value} {e : TypeId} {size : Nat} {xs : List Value} (h : W.ownsRow base e size v n xs) {b : Nat} (hb : W.heap.size ≤ b) : some b ≠ v.ownBlock := fun e => by
  have := own_blk_lt h e.symm
  omega
theorem grown_low {W W' : World} {base n : Nat} {v : Value} {e : TypeId} {size : Nat} {xs : List Value} (h : W.ownsRow base e size v n xs) (hg : W.grownBy W' v.ownBlock) (hb : base ≤ W.heap.size) : Below base W W' := below_of_grown h hg hb
end Go.Proofs.YtgjdpmpbldofpaaDoor.Wlk
