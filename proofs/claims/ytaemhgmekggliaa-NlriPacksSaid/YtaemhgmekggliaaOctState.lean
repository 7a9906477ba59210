/- A writer, and a row of bytes beside it: how both are kept. -/
import Derived.Test.YtaemhgmekggliaaOctBack
namespace Go.Proofs.Ytaemhgmekggliaa.Oct
open Go.RowKit Mem Ahead

/-- A writer of the bytes l stands in the blocks F; beside it the row v of the call's own reads as m. -/
structure St (base : Nat) (P : Value) (l : List Nat) (F : Nat → Prop) (v : Value) (m : List Nat) (W : World) : Prop where
  wr : Wr W base P l F
  row : W.ownsRow base 5 1 v m.length (cells8 m)
  small : Small m
  apart : ∀ g, v.ownBlock = some g → ¬ F g
section
variable {base : Nat} {P v : Value} {l l' m k : List Nat} {F F' : Nat → Prop} {W W' : World}
theorem St.le (h : St base P l F v m W) : base ≤ W.heap.size := by
  obtain ⟨b, s, _, h2, h3, _⟩ := h.wr
  have := (Array.getElem?_eq_some_iff.1 h3).1
  omega
theorem St.below (h : St base P l F v m W) (hb : Below W.heap.size W W') : St base P l F v m W' :=
  ⟨h.wr.below hb, own_keep h.row hb, h.small, h.apart⟩
theorem St.wrote (h : St base P l F v m W) (hw : Wr W' base P l' F') (ho : Only F W W') (hg : Grow F F' W) : St base P l' F' v m W' :=
  ⟨hw, own_same h.row (fun g e => ho.block g (h.row.lt g e).2 (h.apart g e)), h.small, fun g e hf => by
    have h1 := (h.row.lt g e).2
    exact (hg g hf).elim (h.apart g e) (fun h2 => by omega)⟩
theorem St.only (h : St base P l F v m W) (ho : Only F W W') : Below base W W' := ho.below (fun k hk => (h.wr.lt k hk).1) h.le
theorem St.grown (h : St base P l F v m W) {A : Option Addr} {N c : Nat} (hown : W'.ownsRow base 5 1 (.slice A N c) N (cells8 m ++ cells8 k)) (hN : N = (m ++ k).length) (hg : W.grownBy W' v.ownBlock)
    (hat : (Value.slice A N c).ownBlock = v.ownBlock ∨ (Value.slice A N c).ownBlock = some W.heap.size) (hk : Small k) : St base P l F (.slice A N c) (m ++ k) W' := by
  refine ⟨h.wr.keep fun j hj => hg.block j (h.wr.lt j hj).2 (fun e => h.apart j e.symm hj), ?_, h.small.append hk, fun g e hf => ?_⟩
  · rw [cells8_append, ← hN]; exact hown
  · rcases hat with h1 | h1
    · exact h.apart g (h1 ▸ e) hf
    · rw [e] at h1
      injection h1 with h1
      have := (h.wr.lt g hf).2
      omega
end
/-- Bytes that lie apart from the row v. -/
def Piece (W : World) (v u : Value) (l : List Nat) : Prop := U8s W u l ∧ ∀ g, u.ownBlock = some g → g < W.heap.size ∧ v.ownBlock ≠ some g
theorem Piece.below {W W' : World} {v u : Value} {l : List Nat} (h : Piece W v u l) (hb : Below W.heap.size W W') : Piece W' v u l :=
  ⟨h.1.keep hb, fun g e => ⟨Nat.lt_of_lt_of_le (h.2 g e).1 hb.size, (h.2 g e).2⟩⟩
theorem Piece.grown {W W' : World} {v v' u : Value} {l : List Nat} (h : Piece W v u l) (hg : W.grownBy W' v.ownBlock) (hat : v'.ownBlock = v.ownBlock ∨ v'.ownBlock = some W.heap.size) : Piece W' v' u l := by
  refine ⟨h.1.part (fun g e => hg.block g (h.2 g e).1 (fun q => (h.2 g e).2 q.symm)) hg.size, fun g e => ⟨Nat.lt_of_lt_of_le (h.2 g e).1 hg.size, fun q => ?_⟩⟩
  rcases hat with h1 | h1
  · exact (h.2 g e).2 (h1 ▸ q)
  · rw [q] at h1
    injection h1 with h1
    have := (h.2 g e).1
    omega
theorem Piece.new {base : Nat} {P v : Value} {l m k : List Nat} {F : Nat → Prop} {W W' : World} {A : Option Addr} {n c : Nat} (h : St base P l F v m W) (hown : W'.ownsRow W.heap.size 5 1 (.slice A n c) n (cells8 k)) (hn : n = k.length) (hk : Small k) : Piece W' v (.slice A n c) k := by
  subst hn
  exact ⟨U8s.of_own hown hk, fun g e => ⟨(hown.lt g e).2, fun q => by have h1 := (hown.lt g e).1; have h2 := (h.row.lt g q).2; omega⟩⟩
theorem St.lies {base : Nat} {P v : Value} {l m k : List Nat} {F : Nat → Prop} {W W' : World} {A : Option Addr} {n c : Nat} (h : St base P l F v m W) (ho : W'.ownsRow W.heap.size 5 1 (.slice A n c) n (cells8 k)) : Lies W'.heap.size F (.slice A n c) := fun g hg =>
  ⟨(ho.lt g hg).2, fun hf => by have h1 := (ho.lt g hg).1; have h2 := (h.wr.lt g hf).2; omega⟩
theorem Piece.lies {W : World} {v u : Value} {l : List Nat} (h : Piece W v u l) : ∀ g, u.ownBlock = some g → g < W.heap.size := fun g e => (h.2 g e).1
end Go.Proofs.Ytaemhgmekggliaa.Oct
