/- Bytes amid bytes. It speaks of no function of the program. -/
import Derived.Test.YtkkfnpacejdlnaaOctMem
namespace Go.Proofs.Ytkkfnpacejdlnaa.Att
open Go.RowKit Mem Oct

theorem drop_two {b : List Nat} {j a c : Nat} (ha : b[j]? = some a) (hc : b[j + 1]? = some c) : b.drop j = a :: c :: b.drop (j + 2) := by
  obtain ⟨h1, e1⟩ := List.getElem?_eq_some_iff.1 ha
  obtain ⟨h2, e2⟩ := List.getElem?_eq_some_iff.1 hc
  rw [List.drop_eq_getElem_cons h1, List.drop_eq_getElem_cons h2, e1, e2]
theorem drop_one {b : List Nat} {j : Nat} (h1 : j < b.length) (h2 : b.length < j + 2) : ∃ a, b.drop j = [a] := by
  refine ⟨b[j], ?_⟩
  rw [List.drop_eq_getElem_cons h1, List.drop_of_length_le (by omega)]
/-- Two bytes side by side. -/
theorem two_at {w : World} {l : List Nat} {A : Option Addr} {n c k : Nat} (h : U8s w (.slice A n c) l) (hk : k + 1 < l.length) :
    ∃ b off x y, A = some ⟨b, off, none⟩ ∧ b < w.heap.size ∧ l[k]? = some x ∧ x < 256 ∧ w.cell? ⟨b, off + k, none⟩ = some (.int .u8 x) ∧ l[k + 1]? = some y ∧ y < 256 ∧ w.cell? ⟨b, off + (k + 1), none⟩ = some (.int .u8 y) := by
  obtain ⟨b, off, x, e, h1, h2, h3, h4⟩ := h.at_ (k := k) (by omega)
  obtain ⟨b', off', y, e', -, g2, g3, g4⟩ := h.at_ hk
  rw [e] at e'
  injection e' with e'
  injection e' with e1 e2
  subst e1 e2
  exact ⟨b, off, x, y, e, h1, h2, h3, h4, g2, g3, g4⟩
theorem mid_any {w : World} {l : List Nat} {b off c i m : Nat} (h : U8s w (.slice (some ⟨b, off, none⟩) l.length c) l) (hi : i + m ≤ l.length) (hlt : i < l.length ∨ i < c := by omega) : U8s w (.slice (some ⟨b, off + i, none⟩) m (c - i)) ((l.drop i).take m) := by
  obtain ⟨A, c', e, h1, h2⟩ := h.form
  injection e with e1 e2 e3
  subst e3
  have h3 := h.cut (k := i) (by omega)
  rw [if_neg (by omega)] at h3
  have h4 : U8s w (.slice (some ⟨b, off + i, none⟩) (l.length - i) (c - i)) (l.drop i) := by
    by_cases h0 : i = 0
    · subst h0; simpa [Addr.add] using h3
    · simpa [Addr.add, h0] using h3
  exact h4.prefix_ (k := m) (d := c - i) (by rw [List.length_drop]; omega) (by omega) (by unfold maxLen; omega)
end Go.Proofs.Ytkkfnpacejdlnaa.Att
