/- Words for memory: parts in a row. It speaks of no function of the program. -/
import Derived.Test.YtgjdpmpbldofpaaDoorWlkPart
import Derived.Test.YtgjdpmpbldofpaaDoorPkMem
namespace Go.Proofs.YtgjdpmpbldofpaaDoor.Wlk
open Go.RowKit Mem Pfx PR

def tcell (p : Pt) : List Value := [.int .i64 p.A, .int .i64 p.B]
def tcells (l : List Pt) : List Value := l.flatMap tcell
theorem tcells_cons (p : Pt) (l : List Pt) : tcells (p :: l) = tcell p ++ tcells l := by simp [tcells]
theorem tcells_append (l m : List Pt) : tcells (l ++ m) = tcells l ++ tcells m := by simp [tcells]
theorem tcells_len (l : List Pt) : (tcells l).length = l.length * 2 := by
  induction l with
  | nil => rfl
  | cons a l ih =>
    rw [tcells_cons, List.length_append, ih, List.length_cons]
    simp [tcell]; omega
theorem tcells_take : ∀ (k : Nat) (l : List Pt), (tcells l).take (k * 2) = tcells (l.take k)
  | 0, l => by simp [tcells]
  | k + 1, [] => by simp [tcells]
  | k + 1, r :: l => by
    rw [tcells_cons, List.take_succ_cons, tcells_cons, ← tcells_take k l, List.take_append]
    congr 1
    · rw [List.take_of_length_le (by simp [tcell]; omega)]
    · congr 1
      simp [tcell]; omega
theorem tcells_drop : ∀ (k : Nat) (l : List Pt), (tcells l).drop (k * 2) = tcells (l.drop k)
  | 0, l => by simp
  | k + 1, [] => by simp [tcells]
  | k + 1, r :: l => by
    rw [tcells_cons, List.drop_succ_cons, ← tcells_drop k l, List.drop_append]
    rw [List.drop_of_length_le (by simp [tcell]; omega), List.nil_append]
    congr 1
    simp [tcell]; omega
theorem tcells_at : ∀ (i : Nat) (l : List Pt) (p : Pt), l[i]? = some p → ∀ j u, (tcell p)[j]? = some u → (tcells l)[i * 2 + j]? = some u
  | 0, b :: l, p, h, j, u, hu => by
    simp at h
    subst h
    have hj : j < 2 := by have := (List.getElem?_eq_some_iff.1 hu).1; simpa [tcell] using this
    rw [tcells_cons, List.getElem?_append_left (by simp [tcell]; omega), Nat.zero_mul, Nat.zero_add]
    exact hu
  | i + 1, b :: l, p, h, j, u, hu => by
    have h2 := tcells_at i l p (by simpa using h) j u hu
    rw [tcells_cons, List.getElem?_append_right (by simp [tcell]; omega), show (i + 1) * 2 + j - (tcell b).length = i * 2 + j by simp [tcell]; omega]
    exact h2
  | 0, [], p, h, _, _, _ => by simp at h
  | i + 1, [], p, h, _, _, _ => by simp at h
theorem tcells_of {l : List Pt} {j : Nat} {u : Value} (h : (tcells l)[j]? = some u) : ∃ i p r, j = i * 2 + r ∧ r < 2 ∧ l[i]? = some p ∧ (tcell p)[r]? = some u := by
  have hj := (List.getElem?_eq_some_iff.1 h).1
  rw [tcells_len] at hj
  have hi : j / 2 < l.length := by omega
  have h1 := List.getElem?_eq_getElem hi
  have hr : j % 2 < 2 := by omega
  have h2 : (tcell l[j / 2])[j % 2]? = some (tcell l[j / 2])[j % 2] := List.getElem?_eq_getElem (by simpa [tcell] using hr)
  have h3 := tcells_at (j / 2) l _ h1 (j % 2) _ h2
  rw [show j / 2 * 2 + j % 2 = j by omega, h] at h3
  exact ⟨j / 2, _, j % 2, by omega, hr, h1, by rw [h2, ← h3]⟩
theorem ones_t (l : List Pt) : ∀ u ∈ tcells l, u.oneCell' = true := fun u hu => by
  obtain ⟨r, _, hr⟩ := List.mem_flatMap.1 hu
  simp only [tcell, List.mem_cons, List.not_mem_nil, or_false] at hr
  rcases hr with rfl | rfl <;> rfl
/-- A slice of parts. -/
def Pts (w : World) (v : Value) (l : List Pt) : Prop := Row w 2 v l.length (tcells l)
section
variable {w w' : World} {v : Value} {l : List Pt}
theorem Pts.keep (h : Pts w v l) (hb : Below w.heap.size w w') : Pts w' v l := Row.keep h hb
theorem Pts.nil (w : World) : Pts w (.slice none 0 0) [] := Row.nil w 2
theorem Pts.of_own {base : Nat} {e : TypeId} (h : w.ownsRow base e 2 v l.length (tcells l)) : Pts w v l := Row.of_own h
theorem Pts.form (h : Pts w v l) : ∃ A c, v = .slice A l.length c ∧ l.length ≤ c ∧ c ≤ 9223372036854775807 := by
  obtain ⟨_, A, c, rfl, h1, h2, _⟩ := h
  exact ⟨A, c, rfl, h1, h2⟩
/-- One part's cells. -/
theorem Pts.at_ {A : Option Addr} {n c i : Nat} {p : Pt} (h : Pts w (.slice A n c) l) (hi : l[i]? = some p) :
    ∃ b off, A = some ⟨b, off, none⟩ ∧ b < w.heap.size ∧ w.cell? ⟨b, off + i * 2, none⟩ = some (.int .i64 p.A) ∧ w.cell? ⟨b, off + i * 2 + 1, none⟩ = some (.int .i64 p.B) := by
  obtain ⟨_, A', c', e, _, _, hr⟩ := h
  injection e with e1 e2 e3
  subst e1 e3
  have hlt := (List.getElem?_eq_some_iff.1 hi).1
  obtain ⟨b, off, rfl, hb, hc⟩ := hr (by omega)
  have k := fun j u hu => hc (i * 2 + j) u (tcells_at i l p hi j u hu)
  refine ⟨b, off, rfl, hb, k 0 _ rfl, ?_⟩
  rw [Nat.add_assoc]; exact k 1 _ rfl
end
theorem elemT : ∃ i, IsElem Tryd.prog 30 42 2 16 i (.agg #[.int .i64 0, .int .i64 0]) := IsElem.mk_ Tryd.underlying30 (by kernel_rfl) rfl (by decide)
theorem elemP0 : ∃ i, IsElem Tryd.prog 25 24 2 16 i (.agg #[.int .u32 0, .int .i64 0]) := elemP
/-- What gives parts in memory of its own. -/
def GivesT (l : List Pt) (w : World) (e : Ending) (w' : World) : Prop :=
  ∃ A c, e = .returned (.slice A l.length c) ∧ w'.ownsRow w.heap.size 42 2 (.slice A l.length c) l.length (tcells l) ∧ Below w.heap.size w w'
theorem own_nilT (w : World) (base : Nat) : w.ownsRow base 42 2 (.slice none 0 0) 0 (tcells []) := ⟨rfl, .inl ⟨rfl, rfl⟩⟩
theorem own_blkT {W : World} {base B : Nat} {t : TypeId} (hB : base ≤ B) (h : W.heap[B]? = some (.cells #[] t (0, 0))) : W.ownsRow base t 2 (.slice (some ⟨B, 0, none⟩) 0 0) 0 [] :=
  ⟨rfl, .inr ⟨B, 0, #[], rfl, hB, h, Nat.le_refl _, Nat.zero_le _, rfl, rfl⟩⟩
theorem last_at {l : List Pf} {n : Nat} (h : l.length = n + 1) : ∃ q, l[n]? = some q ∧ l.getLast? = some q := by
  have h1 : n < l.length := by omega
  refine ⟨l[n], List.getElem?_eq_getElem h1, ?_⟩
  rw [List.getLast?_eq_getElem?, h, Nat.add_sub_cancel]
  exact List.getElem?_eq_getElem h1
theorem own_snoc {W : World} {base n : Nat} {v : Value} {l : List Pf} {p : Pf} (h : W.ownsRow base 24 2 v n (pcells l ++ [.int .u32 p.a, .int .i64 p.n])) : W.ownsRow base 24 2 v n (pcells (l ++ [p])) := by
  rw [pcells_append]
  exact h
theorem ones2 (x y : Int) (i j : IntKind) : ∀ u ∈ [Value.int i x, Value.int j y], u.oneCell' = true := by
  intro u hu
  simp at hu
  rcases hu with rfl | rfl <;> rfl
theorem row_new2 (w : World) (x y : Value) (t : TypeId) : Row (w.alloc (.cells #[x, y] t)) 2 (.slice (some ⟨w.heap.size, 0, none⟩) 1 1) 1 [x, y] :=
  Row.of_own (base := w.heap.size) (e := t) ⟨rfl, .inr ⟨w.heap.size, 1, _, rfl, Nat.le_refl _, heap_alloc_new _ _, Nat.le_refl _, by decide, rfl, rfl⟩⟩
end Go.Proofs.YtgjdpmpbldofpaaDoor.Wlk
