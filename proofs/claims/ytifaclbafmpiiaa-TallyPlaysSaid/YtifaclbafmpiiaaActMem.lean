/- Words for memory: acts of four numbers, and rows of three. It speaks of no function of the program. -/
import Derived.Test.YtifaclbafmpiiaaMem
namespace Go.Proofs.Ytifaclbafmpiiaa.Tal
open Go.RowKit Mem

/-- An act: what kind, which key, how many up, how many down. -/
structure Act where
  kind : Int
  key : Nat
  up : Int
  down : Int
/-- .. as the program can hold it. -/
def Act.ok (a : Act) : Prop := a.key < 4294967296 ∧ (Lit.int .i64 a.kind).wf = true ∧ (Lit.int .i64 a.up).wf = true ∧ (Lit.int .i64 a.down).wf = true
def actCell (a : Act) : List Value := [.int .i64 a.kind, .int .u32 a.key, .int .i64 a.up, .int .i64 a.down]
def actV (a : Act) : Value := .agg #[.int .i64 a.kind, .int .u32 a.key, .int .i64 a.up, .int .i64 a.down]
def actCells (l : List Act) : List Value := l.flatMap actCell
theorem actCells_len (l : List Act) : (actCells l).length = l.length * 4 := by
  induction l with
  | nil => rfl
  | cons a l ih =>
    have h : actCells (a :: l) = actCell a ++ actCells l := by simp [actCells]
    rw [h, List.length_append, ih, List.length_cons]
    simp [actCell]; omega
theorem actCells_at : ∀ (i : Nat) (l : List Act) (a : Act), l[i]? = some a → ∀ j u, (actCell a)[j]? = some u → (actCells l)[i * 4 + j]? = some u
  | 0, b :: l, a, h, j, u, hu => by
    simp at h
    subst h
    have hj : j < 4 := by have := (List.getElem?_eq_some_iff.1 hu).1; simpa [actCell] using this
    have e : actCells (b :: l) = actCell b ++ actCells l := by simp [actCells]
    rw [e, List.getElem?_append_left (by simp [actCell]; omega), Nat.zero_mul, Nat.zero_add]
    exact hu
  | i + 1, b :: l, a, h, j, u, hu => by
    have h2 := actCells_at i l a (by simpa using h) j u hu
    have e : actCells (b :: l) = actCell b ++ actCells l := by simp [actCells]
    rw [e, List.getElem?_append_right (by simp [actCell]; omega), show (i + 1) * 4 + j - (actCell b).length = i * 4 + j by simp [actCell]; omega]
    exact h2
  | 0, [], a, h, _, _, _ => by simp at h
  | i + 1, [], a, h, _, _, _ => by simp at h
theorem actCells_of {l : List Act} {j : Nat} {u : Value} (h : (actCells l)[j]? = some u) : ∃ i a r, j = i * 4 + r ∧ r < 4 ∧ l[i]? = some a ∧ (actCell a)[r]? = some u := by
  have hj := (List.getElem?_eq_some_iff.1 h).1
  rw [actCells_len] at hj
  have hi : j / 4 < l.length := by omega
  have h1 := List.getElem?_eq_getElem hi
  have hr : j % 4 < 4 := by omega
  have h2 : (actCell l[j / 4])[j % 4]? = some (actCell l[j / 4])[j % 4] := List.getElem?_eq_getElem (by simpa [actCell] using hr)
  have h3 := actCells_at (j / 4) l _ h1 (j % 4) _ h2
  rw [show j / 4 * 4 + j % 4 = j by omega, h] at h3
  exact ⟨j / 4, _, j % 4, by omega, hr, h1, by rw [h2, ← h3]⟩
/-- A slice of acts. -/
def Acts (w : World) (v : Value) (l : List Act) : Prop := Row w 4 v l.length (actCells l) ∧ ∀ a ∈ l, a.ok
section
variable {w w' : World} {v : Value} {l : List Act}
theorem Acts.keep (h : Acts w v l) (hb : Below w.heap.size w w') : Acts w' v l := ⟨h.1.keep hb, h.2⟩
theorem Acts.form (h : Acts w v l) : ∃ A c, v = .slice A l.length c ∧ l.length ≤ c ∧ c ≤ 9223372036854775807 := by
  obtain ⟨⟨_, A, c, rfl, h1, h2, _⟩, _⟩ := h
  exact ⟨A, c, rfl, h1, h2⟩
/-- One act's cells. -/
theorem Acts.at_ {A : Option Addr} {n c i : Nat} {a : Act} (h : Acts w (.slice A n c) l) (hi : l[i]? = some a) :
    ∃ b off, A = some ⟨b, off, none⟩ ∧ b < w.heap.size ∧ w.cell? ⟨b, off + i * 4, none⟩ = some (.int .i64 a.kind) ∧ w.cell? ⟨b, off + i * 4 + 1, none⟩ = some (.int .u32 a.key) ∧ w.cell? ⟨b, off + i * 4 + 2, none⟩ = some (.int .i64 a.up) ∧ w.cell? ⟨b, off + i * 4 + 3, none⟩ = some (.int .i64 a.down) := by
  obtain ⟨⟨_, A', c', e, _, _, hr⟩, _⟩ := h
  injection e with e1 e2 e3
  subst e1 e3
  have hlt := (List.getElem?_eq_some_iff.1 hi).1
  obtain ⟨b, off, rfl, hb, hc⟩ := hr (by omega)
  have k := fun j u hu => hc (i * 4 + j) u (actCells_at i l a hi j u hu)
  refine ⟨b, off, rfl, hb, k 0 _ rfl, ?_, ?_, ?_⟩
  · rw [Nat.add_assoc]; exact k 1 _ rfl
  · rw [Nat.add_assoc]; exact k 2 _ rfl
  · rw [Nat.add_assoc]; exact k 3 _ rfl
end

/-- A row: a key, and its two counts. -/
structure Cnt where
  key : Nat
  up : Nat
  down : Nat
def cntCell (r : Cnt) : List Value := [.int .u32 r.key, .int .i64 r.up, .int .i64 r.down]
def cntCells (l : List Cnt) : List Value := l.flatMap cntCell
theorem cntCells_cons (r : Cnt) (l : List Cnt) : cntCells (r :: l) = cntCell r ++ cntCells l := by simp [cntCells]
theorem cntCells_append (l m : List Cnt) : cntCells (l ++ m) = cntCells l ++ cntCells m := by simp [cntCells]
theorem cntCells_len (l : List Cnt) : (cntCells l).length = l.length * 3 := by
  induction l with
  | nil => rfl
  | cons a l ih =>
    rw [cntCells_cons, List.length_append, ih, List.length_cons]
    simp [cntCell]; omega
theorem cntCells_take : ∀ (k : Nat) (l : List Cnt), (cntCells l).take (k * 3) = cntCells (l.take k)
  | 0, l => by simp [cntCells]
  | k + 1, [] => by simp [cntCells]
  | k + 1, r :: l => by
    rw [cntCells_cons, List.take_succ_cons, cntCells_cons, ← cntCells_take k l, List.take_append]
    congr 1
    · rw [List.take_of_length_le (by simp [cntCell]; omega)]
    · congr 1
      simp [cntCell]; omega
theorem cntCells_drop : ∀ (k : Nat) (l : List Cnt), (cntCells l).drop (k * 3) = cntCells (l.drop k)
  | 0, l => by simp
  | k + 1, [] => by simp [cntCells]
  | k + 1, r :: l => by
    rw [cntCells_cons, List.drop_succ_cons, ← cntCells_drop k l, List.drop_append]
    rw [List.drop_of_length_le (by simp [cntCell]; omega), List.nil_append]
    congr 1
    simp [cntCell]; omega
theorem cntCells_at : ∀ (i : Nat) (l : List Cnt) (a : Cnt), l[i]? = some a → ∀ j u, (cntCell a)[j]? = some u → (cntCells l)[i * 3 + j]? = some u
  | 0, b :: l, a, h, j, u, hu => by
    simp at h
    subst h
    have hj : j < 3 := by have := (List.getElem?_eq_some_iff.1 hu).1; simpa [cntCell] using this
    rw [cntCells_cons, List.getElem?_append_left (by simp [cntCell]; omega), Nat.zero_mul, Nat.zero_add]
    exact hu
  | i + 1, b :: l, a, h, j, u, hu => by
    have h2 := cntCells_at i l a (by simpa using h) j u hu
    rw [cntCells_cons, List.getElem?_append_right (by simp [cntCell]; omega), show (i + 1) * 3 + j - (cntCell b).length = i * 3 + j by simp [cntCell]; omega]
    exact h2
  | 0, [], a, h, _, _, _ => by simp at h
  | i + 1, [], a, h, _, _, _ => by simp at h
theorem ones_cnt (l : List Cnt) : ∀ u ∈ cntCells l, u.oneCell' = true := fun u hu => by
  obtain ⟨r, _, hr⟩ := List.mem_flatMap.1 hu
  simp only [cntCell, List.mem_cons, List.not_mem_nil, or_false] at hr
  rcases hr with rfl | rfl | rfl <;> rfl
/-- A slice of rows. -/
def Cnts (w : World) (v : Value) (l : List Cnt) : Prop := Row w 3 v l.length (cntCells l)
theorem Cnts.keep {w w' : World} {v : Value} {l : List Cnt} (h : Cnts w v l) (hb : Below w.heap.size w w') : Cnts w' v l := Row.keep h hb
theorem Cnts.form {w : World} {v : Value} {l : List Cnt} (h : Cnts w v l) : ∃ A c, v = .slice A l.length c ∧ l.length ≤ c ∧ c ≤ 9223372036854775807 := by
  obtain ⟨_, A, c, rfl, h1, h2, _⟩ := h
  exact ⟨A, c, rfl, h1, h2⟩
theorem Cnts.at_ {w : World} {l : List Cnt} {A : Option Addr} {n c i : Nat} {a : Cnt} (h : Cnts w (.slice A n c) l) (hi : l[i]? = some a) :
    ∃ b off, A = some ⟨b, off, none⟩ ∧ b < w.heap.size ∧ w.cell? ⟨b, off + i * 3, none⟩ = some (.int .u32 a.key) ∧ w.cell? ⟨b, off + i * 3 + 1, none⟩ = some (.int .i64 a.up) ∧ w.cell? ⟨b, off + i * 3 + 2, none⟩ = some (.int .i64 a.down) := by
  obtain ⟨_, A', c', e, _, _, hr⟩ := h
  injection e with e1 e2 e3
  subst e1 e3
  have hlt := (List.getElem?_eq_some_iff.1 hi).1
  obtain ⟨b, off, rfl, hb, hc⟩ := hr (by omega)
  have k := fun j u hu => hc (i * 3 + j) u (cntCells_at i l a hi j u hu)
  refine ⟨b, off, rfl, hb, k 0 _ rfl, ?_, ?_⟩
  · rw [Nat.add_assoc]; exact k 1 _ rfl
  · rw [Nat.add_assoc]; exact k 2 _ rfl
end Go.Proofs.Ytifaclbafmpiiaa.Tal
