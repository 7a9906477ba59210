/- Plain mathematics of paths: a number behind, the own form, numbers ahead, sets behind. It imports nothing of the program. -/
import Derived.Test.YtgeekckoepnccaaSetMath
namespace Go.Proofs.Ytgeekckoepnccaa.Segm
open Rise

abbrev Piece := Int × List Nat
/-- A number behind a path: into its last piece, if that is a sequence with room. -/
def putS (p : List Piece) (n : Nat) : List Piece := match p.getLast? with
  | some s => if s.1 = 2 ∧ s.2.length < 255 then p.dropLast ++ [(2, s.2 ++ [n])] else p ++ [(2, [n])]
  | none => [(2, [n])]
theorem putS_nil (n : Nat) : putS [] n = [(2, [n])] := rfl
theorem putS_room {f : List Piece} {s : Piece} (n : Nat) (h1 : s.1 = 2) (h2 : s.2.length < 255) : putS (f ++ [s]) n = f ++ [(2, s.2 ++ [n])] := by
  unfold putS
  simp [h1, h2]
theorem putS_full {f : List Piece} {s : Piece} (n : Nat) (h : ¬ (s.1 = 2 ∧ s.2.length < 255)) : putS (f ++ [s]) n = f ++ [s] ++ [(2, [n])] := by
  unfold putS
  simp only [List.getLast?_append, List.getLast?_singleton, Option.some_or]
  rw [if_neg h]
theorem putS_len (p : List Piece) (n : Nat) : (putS p n).length ≤ p.length + 1 := by
  rcases List.eq_nil_or_concat p with rfl | ⟨f, s, rfl⟩
  · simp [putS]
  · rw [List.concat_eq_append]
    by_cases h : s.1 = 2 ∧ s.2.length < 255
    · rw [putS_room n h.1 h.2]; simp
    · rw [putS_full n h]; simp
def putsS (p : List Piece) (l : List Nat) : List Piece := l.foldl putS p
theorem putsS_nil (p : List Piece) : putsS p [] = p := rfl
theorem putsS_snoc (p : List Piece) (l : List Nat) (n : Nat) : putsS p (l ++ [n]) = putS (putsS p l) n := by unfold putsS; rw [List.foldl_append]; rfl
theorem putsS_len (p : List Piece) (l : List Nat) : (putsS p l).length ≤ p.length + l.length := by
  induction hn : l.length generalizing l with
  | zero => rw [List.length_eq_zero_iff.1 hn, putsS_nil]; simp
  | succ n ih =>
    rcases List.eq_nil_or_concat l with rfl | ⟨m, c, rfl⟩
    · simp at hn
    · rw [List.concat_eq_append] at *
      rw [putsS_snoc]
      have h1 := putS_len (putsS p m) c
      have h2 := ih m (by simpa using hn)
      have h3 : m.length = n := by simpa using hn
      omega
/-- What a piece adds to the own form. -/
def normOne (p : List Piece) (s : Piece) : List Piece :=
  if s.1 = 2 then putsS p s.2 else if s.1 = 1 ∧ s.2 ≠ [] then p ++ [(1, setOf s.2)] else p
/-- The own form. -/
def normS (p : List Piece) : List Piece := p.foldl normOne []
theorem normS_nil : normS [] = [] := rfl
theorem normS_snoc (p : List Piece) (s : Piece) : normS (p ++ [s]) = normOne (normS p) s := by unfold normS; rw [List.foldl_append]; rfl
/-- How many numbers and pieces a path has together. -/
def bulk (p : List Piece) : Nat := (p.map fun s => s.2.length + 1).sum
theorem bulk_append (p q : List Piece) : bulk (p ++ q) = bulk p + bulk q := by simp [bulk]
theorem bulk_take {p : List Piece} {k : Nat} {s : Piece} (h : p[k]? = some s) : bulk (p.take (k + 1)) = bulk (p.take k) + (s.2.length + 1) := by
  rw [List.take_add_one, h, Option.toList_some, bulk_append]; simp [bulk]
theorem bulk_take_le (p : List Piece) (k : Nat) : bulk (p.take k) ≤ bulk p := by
  have h := bulk_append (p.take k) (p.drop k)
  rw [List.take_append_drop] at h
  omega
theorem normOne_len (p : List Piece) (s : Piece) : (normOne p s).length ≤ p.length + (s.2.length + 1) := by
  unfold normOne
  split
  · have := putsS_len p s.2; omega
  · split
    · simp
    · omega
theorem normS_len (p : List Piece) : (normS p).length ≤ bulk p := by
  induction hn : p.length generalizing p with
  | zero => rw [List.length_eq_zero_iff.1 hn]; simp [normS]
  | succ n ih =>
    rcases List.eq_nil_or_concat p with rfl | ⟨m, c, rfl⟩
    · simp at hn
    · rw [List.concat_eq_append] at *
      rw [normS_snoc, bulk_append]
      have h1 := normOne_len (normS m) c
      have h2 := ih m (by simpa using hn)
      simp [bulk] at h2 ⊢
      omega
theorem take_one {p : List Piece} {k : Nat} {s : Piece} (h : p[k]? = some s) : p.take (k + 1) = p.take k ++ [s] := by rw [List.take_add_one, h]; rfl
/-- A number, so often. -/
def timesS (n k : Nat) : List Piece := putsS [] (List.replicate k n)
theorem timesS_zero (n : Nat) : timesS n 0 = [] := rfl
theorem timesS_succ (n k : Nat) : timesS n (k + 1) = putS (timesS n k) n := by
  unfold timesS
  rw [List.replicate_succ', putsS_snoc]
theorem timesS_len (n k : Nat) : (timesS n k).length ≤ k := by
  have := putsS_len [] (List.replicate k n)
  simpa [timesS] using this
/-- How many numbers each piece has at most. -/
def FitS (m : Nat) (p : List Piece) : Prop := ∀ s ∈ p, s.2.length ≤ m
theorem putS_fit {m : Nat} {p : List Piece} (n : Nat) (hm : 255 ≤ m) (h : FitS m p) : FitS m (putS p n) := by
  rcases List.eq_nil_or_concat p with rfl | ⟨f, s, rfl⟩
  · intro s hs
    rw [putS_nil] at hs
    rw [List.mem_singleton.1 hs]; simp; omega
  · rw [List.concat_eq_append] at *
    have hf : ∀ s' ∈ f, s'.2.length ≤ m := fun s' hs => h s' (by simp [hs])
    by_cases hr : s.1 = 2 ∧ s.2.length < 255
    · rw [putS_room n hr.1 hr.2]
      intro s' hs
      rcases List.mem_append.1 hs with hs | hs
      · exact hf s' hs
      · rw [List.mem_singleton.1 hs]; simp; omega
    · rw [putS_full n hr]
      intro s' hs
      rcases List.mem_append.1 hs with hs | hs
      · exact h s' hs
      · rw [List.mem_singleton.1 hs]; simp; omega
theorem bulk_put (p : List Piece) (n : Nat) : bulk (putS p n) ≤ bulk p + 2 := by
  rcases List.eq_nil_or_concat p with rfl | ⟨f, s, rfl⟩
  · rw [putS_nil]; simp [bulk]
  · rw [List.concat_eq_append] at *
    by_cases hr : s.1 = 2 ∧ s.2.length < 255
    · rw [putS_room n hr.1 hr.2, bulk_append, bulk_append]; simp [bulk]; omega
    · rw [putS_full n hr, bulk_append]; simp [bulk]
theorem timesS_fit (n k m : Nat) (hm : 255 ≤ m) : FitS m (timesS n k) := by
  induction k with
  | zero => intro s hs; rw [timesS_zero] at hs; cases hs
  | succ k ih => rw [timesS_succ]; exact putS_fit n hm ih
theorem bulk_times (n k : Nat) : bulk (timesS n k) ≤ 2 * k := by
  induction k with
  | zero => simp [timesS_zero, bulk]
  | succ k ih =>
    rw [timesS_succ]
    have := bulk_put (timesS n k) n
    omega
theorem FitS.append {m : Nat} {p q : List Piece} (h : FitS m p) (h2 : FitS m q) : FitS m (p ++ q) := fun s hs => (List.mem_append.1 hs).elim (h s) (h2 s)
/-- How often. -/
def clampT (t : Int) : Nat := if 255 < t then 255 else t.toNat
/-- A path with a number ahead, so often. -/
def prependS (p : List Piece) (n : Nat) (k : Nat) : List Piece := normS (timesS n k ++ p)
/-- Sets of at most 255 numbers each. -/
def chunkS : Nat → List Nat → List Piece
  | 0, _ => []
  | f + 1, l => if l = [] then [] else if 255 < l.length then (1, l.take 255) :: chunkS f (l.drop 255) else [(1, l)]
def joinP (lead set : List Nat) : List Piece := putsS [] lead ++ chunkS (setOf set).length (setOf set)
theorem chunk_more {f : Nat} {l : List Nat} (h : 255 < l.length) : chunkS (f + 1) l = (1, l.take 255) :: chunkS f (l.drop 255) := by
  rw [chunkS, if_neg (by rintro rfl; simp at h), if_pos h]
theorem chunk_fuel : ∀ (f g : Nat) (l : List Nat), l.length ≤ f → l.length ≤ g → chunkS f l = chunkS g l
  | 0, g, l, h, _ => by
    rw [List.length_eq_zero_iff.1 (Nat.le_zero.1 h)]
    cases g <;> simp [chunkS]
  | f + 1, 0, l, _, h => by
    rw [List.length_eq_zero_iff.1 (Nat.le_zero.1 h)]
    simp [chunkS]
  | f + 1, g + 1, l, h1, h2 => by
    by_cases h : 255 < l.length
    · rw [chunk_more h, chunk_more h, chunk_fuel f g (l.drop 255) (by simp; omega) (by simp; omega)]
    · unfold chunkS
      simp [h]
theorem chunk_last {f : Nat} {l : List Nat} (h : l.length ≤ f) (h1 : l ≠ []) (h2 : ¬ 255 < l.length) : chunkS f l = [(1, l)] := by
  cases f with
  | zero => exact absurd (List.length_eq_zero_iff.1 (Nat.le_zero.1 h)) h1
  | succ f => rw [chunkS, if_neg h1, if_neg h2]
theorem chunk_nil (f : Nat) : chunkS f [] = [] := by cases f <;> simp [chunkS]
theorem chunk_len : ∀ (f : Nat) (l : List Nat), (chunkS f l).length ≤ f
  | 0, _ => by simp [chunkS]
  | f + 1, l => by
    unfold chunkS
    split
    · simp
    · split
      · have := chunk_len f (l.drop 255); simp; omega
      · simp
end Go.Proofs.Ytgeekckoepnccaa.Segm
