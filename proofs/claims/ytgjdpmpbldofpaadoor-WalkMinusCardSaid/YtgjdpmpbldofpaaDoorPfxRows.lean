/- Words for memory: prefixes in a row. It speaks of no function of the program. -/
import Derived.Test.YtgjdpmpbldofpaaDoorMem
namespace Go.Proofs.YtgjdpmpbldofpaaDoor.PR
open Go.RowKit Mem

/-- A prefix: an address and a length. -/
structure Pf where
  a : Nat
  n : Int
def Pf.ok (p : Pf) : Prop := p.a < 4294967296 ∧ (Lit.int .i64 p.n).wf = true
def pcell (p : Pf) : List Value := [.int .u32 p.a, .int .i64 p.n]
def pV (p : Pf) : Value := .agg #[.int .u32 p.a, .int .i64 p.n]
def pcells (l : List Pf) : List Value := l.flatMap pcell
theorem pcells_cons (p : Pf) (l : List Pf) : pcells (p :: l) = pcell p ++ pcells l := by simp [pcells]
theorem pcells_append (l m : List Pf) : pcells (l ++ m) = pcells l ++ pcells m := by simp [pcells]
theorem pcells_len (l : List Pf) : (pcells l).length = l.length * 2 := by
  induction l with
  | nil => rfl
  | cons a l ih =>
    rw [pcells_cons, List.length_append, ih, List.length_cons]
    simp [pcell]; omega
theorem pcells_take : ∀ (k : Nat) (l : List Pf), (pcells l).take (k * 2) = pcells (l.take k)
  | 0, l => by simp [pcells]
  | k + 1, [] => by simp [pcells]
  | k + 1, r :: l => by
    rw [pcells_cons, List.take_succ_cons, pcells_cons, ← pcells_take k l, List.take_append]
    congr 1
    · rw [List.take_of_length_le (by simp [pcell]; omega)]
    · congr 1
      simp [pcell]; omega
theorem pcells_drop : ∀ (k : Nat) (l : List Pf), (pcells l).drop (k * 2) = pcells (l.drop k)
  | 0, l => by simp
  | k + 1, [] => by simp [pcells]
  | k + 1, r :: l => by
    rw [pcells_cons, List.drop_succ_cons, ← pcells_drop k l, List.drop_append]
    rw [List.drop_of_length_le (by simp [pcell]; omega), List.nil_append]
    congr 1
    simp [pcell]; omega
theorem pcells_at : ∀ (i : Nat) (l : List Pf) (p : Pf), l[i]? = some p → ∀ j u, (pcell p)[j]? = some u → (pcells l)[i * 2 + j]? = some u
  | 0, b :: l, p, h, j, u, hu => by
    simp at h
    subst h
    have hj : j < 2 := by have := (List.getElem?_eq_some_iff.1 hu).1; simpa [pcell] using this
    rw [pcells_cons, List.getElem?_append_left (by simp [pcell]; omega), Nat.zero_mul, Nat.zero_add]
    exact hu
  | i + 1, b :: l, p, h, j, u, hu => by
    have h2 := pcells_at i l p (by simpa using h) j u hu
    rw [pcells_cons, List.getElem?_append_right (by simp [pcell]; omega), show (i + 1) * 2 + j - (pcell b).length = i * 2 + j by simp [pcell]; omega]
    exact h2
  | 0, [], p, h, _, _, _ => by simp at h
  | i + 1, [], p, h, _, _, _ => by simp at h
theorem pcells_of {l : List Pf} {j : Nat} {u : Value} (h : (pcells l)[j]? = some u) : ∃ i p r, j = i * 2 + r ∧ r < 2 ∧ l[i]? = some p ∧ (pcell p)[r]? = some u := by
  have hj := (List.getElem?_eq_some_iff.1 h).1
  rw [pcells_len] at hj
  have hi : j / 2 < l.length := by omega
  have h1 := List.getElem?_eq_getElem hi
  have hr : j % 2 < 2 := by omega
  have h2 : (pcell l[j / 2])[j % 2]? = some (pcell l[j / 2])[j % 2] := List.getElem?_eq_getElem (by simpa [pcell] using hr)
  have h3 := pcells_at (j / 2) l _ h1 (j % 2) _ h2
  rw [show j / 2 * 2 + j % 2 = j by omega, h] at h3
  exact ⟨j / 2, _, j % 2, by omega, hr, h1, by rw [h2, ← h3]⟩
theorem ones_p (l : List Pf) : ∀ u ∈ pcells l, u.oneCell' = true := fun u hu => by
  obtain ⟨r, _, hr⟩ := List.mem_flatMap.1 hu
  simp only [pcell, List.mem_cons, List.not_mem_nil, or_false] at hr
  rcases hr with rfl | rfl <;> rfl
/-- All can be held. -/
def Oks (l : List Pf) : Prop := ∀ p ∈ l, p.ok
theorem Oks.take {l : List Pf} (h : Oks l) (k : Nat) : Oks (l.take k) := fun p hp => h p (List.mem_of_mem_take hp)
theorem Oks.drop {l : List Pf} (h : Oks l) (k : Nat) : Oks (l.drop k) := fun p hp => h p (List.mem_of_mem_drop hp)
theorem Oks.append {l m : List Pf} (h : Oks l) (k : Oks m) : Oks (l ++ m) := fun p hp => (List.mem_append.1 hp).elim (h p) (k p)
theorem oks_nil : Oks [] := fun p h => by simp at h
/-- A slice of prefixes. -/
def Pfxs (w : World) (v : Value) (l : List Pf) : Prop := Row w 2 v l.length (pcells l) ∧ Oks l
section
variable {w w' : World} {v : Value} {l : List Pf}
theorem Pfxs.keep (h : Pfxs w v l) (hb : Below w.heap.size w w') : Pfxs w' v l := ⟨h.1.keep hb, h.2⟩
theorem Pfxs.nil (w : World) : Pfxs w (.slice none 0 0) [] := ⟨Row.nil w 2, oks_nil⟩
theorem Pfxs.of_own {base : Nat} {e : TypeId} (h : w.ownsRow base e 2 v l.length (pcells l)) (hl : Oks l) : Pfxs w v l := ⟨Row.of_own h, hl⟩
theorem Pfxs.form (h : Pfxs w v l) : ∃ A c, v = .slice A l.length c ∧ l.length ≤ c ∧ c ≤ 9223372036854775807 := by
  obtain ⟨⟨_, A, c, rfl, h1, h2, _⟩, _⟩ := h
  exact ⟨A, c, rfl, h1, h2⟩
/-- One prefix's cells. -/
theorem Pfxs.at_ {A : Option Addr} {n c i : Nat} {p : Pf} (h : Pfxs w (.slice A n c) l) (hi : l[i]? = some p) :
    ∃ b off, A = some ⟨b, off, none⟩ ∧ b < w.heap.size ∧ w.cell? ⟨b, off + i * 2, none⟩ = some (.int .u32 p.a) ∧ w.cell? ⟨b, off + i * 2 + 1, none⟩ = some (.int .i64 p.n) := by
  obtain ⟨⟨_, A', c', e, _, _, hr⟩, _⟩ := h
  injection e with e1 e2 e3
  subst e1 e3
  have hlt := (List.getElem?_eq_some_iff.1 hi).1
  obtain ⟨b, off, rfl, hb, hc⟩ := hr (by omega)
  have k := fun j u hu => hc (i * 2 + j) u (pcells_at i l p hi j u hu)
  refine ⟨b, off, rfl, hb, k 0 _ rfl, ?_⟩
  rw [Nat.add_assoc]; exact k 1 _ rfl
/-- The first k, with whatever room. -/
theorem Pfxs.prefix_ {A : Option Addr} {n c k d : Nat} (h : Pfxs w (.slice A n c) l) (hk : k ≤ l.length) (hd : k ≤ d) (hm : d ≤ maxLen) : Pfxs w (.slice A k d) (l.take k) := by
  obtain ⟨⟨hl, A', c', e, hn, hc, hr⟩, hs⟩ := h
  injection e with e1 e2 e3
  subst e1 e3
  have hlen : (l.take k).length = k := by rw [List.length_take]; omega
  refine ⟨⟨pcells_len _, A, d, by rw [hlen], by rw [hlen]; exact hd, hm, fun h0 => ?_⟩, hs.take k⟩
  obtain ⟨b, off, hA, hlt, hcell⟩ := hr (by omega)
  refine ⟨b, off, hA, hlt, fun i x hx => hcell i x ?_⟩
  rw [← pcells_take, List.getElem?_take] at hx
  split at hx
  · exact hx
  · cases hx
end
end Go.Proofs.YtgjdpmpbldofpaaDoor.PR
