/- Words for memory: a slice of byte slices. It speaks of no function of the program. -/
import Derived.Test.YtgeekckoepnccaaOctMem
namespace Go.Proofs.Ytgeekckoepnccaa.Frm
open Go.RowKit Mem Oct

/-- A slice of byte slices. -/
def Lists8 (W : World) (v : Value) (ls : List (List Nat)) : Prop := ∃ q : List Value, Row W 1 v ls.length q ∧ q.length = ls.length ∧ ∀ (k : Nat) (l : List Nat) (x : Value), ls[k]? = some l → q[k]? = some x → U8s W x l
theorem Lists8.keep {W W' : World} {v : Value} {ls : List (List Nat)} (h : Lists8 W v ls) (hb : Below W.heap.size W W') : Lists8 W' v ls := let ⟨q, h1, h2, h3⟩ := h; ⟨q, h1.keep hb, h2, fun k l x e1 e2 => (h3 k l x e1 e2).keep hb⟩
theorem Lists8.form {W : World} {v : Value} {ls : List (List Nat)} (h : Lists8 W v ls) : ∃ A c, v = .slice A ls.length c ∧ ls.length ≤ c ∧ c ≤ 9223372036854775807 := by
  obtain ⟨q, ⟨_, A, c, rfl, h1, h2, _⟩, _⟩ := h
  exact ⟨A, c, rfl, h1, h2⟩
theorem Lists8.at_ {W : World} {A : Option Addr} {n c k : Nat} {ls : List (List Nat)} (h : Lists8 W (.slice A n c) ls) (hk : k < ls.length) :
    ∃ b off x, A = some ⟨b, off, none⟩ ∧ W.cell? ⟨b, off + k, none⟩ = some x ∧ U8s W x ls[k] := by
  obtain ⟨q, ⟨hl, A', c', e, hn, hc, hr⟩, hq, hu⟩ := h
  injection e with e1 e2 e3
  subst e1 e3
  obtain ⟨b, off, rfl, hb, hcell⟩ := hr (by omega)
  have hx := List.getElem?_eq_getElem (show k < q.length by omega)
  exact ⟨b, off, _, rfl, hcell _ _ hx, hu k _ _ (List.getElem?_eq_getElem hk) hx⟩
end Go.Proofs.Ytgeekckoepnccaa.Frm
