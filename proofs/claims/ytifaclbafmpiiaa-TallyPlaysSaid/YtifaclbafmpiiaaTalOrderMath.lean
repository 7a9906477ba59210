/- Plain mathematics of additions in a row: in which order they come makes no difference to what is told. -/
import Derived.Test.YtifaclbafmpiiaaTalSum
namespace Go.Proofs.Ytifaclbafmpiiaa.Tal

/-- Additions, one after another: key, up, down. -/
abbrev Plus := Nat × Nat × Nat
def accA (xs : List Plus) : List Cnt := xs.foldl (fun l x => addS l x.1 x.2.1 x.2.2) []
theorem accA_snoc (xs : List Plus) (x : Plus) : accA (xs ++ [x]) = addS (accA xs) x.1 x.2.1 x.2.2 := by unfold accA; rw [List.foldl_append]; rfl
/-- What a key has been told, and all. -/
def toldUp (xs : List Plus) (k : Nat) : Nat := (xs.map fun x => if x.1 = k then x.2.1 else 0).sum
def toldDown (xs : List Plus) (k : Nat) : Nat := (xs.map fun x => if x.1 = k then x.2.2 else 0).sum
theorem acc_tells (k : Nat) : ∀ (n : Nat) (xs : List Plus), xs.length = n → ofG Cnt.up (accA xs) k = toldUp xs k ∧ ofG Cnt.down (accA xs) k = toldDown xs k ∧ sumG Cnt.up (accA xs) = (xs.map fun x => x.2.1).sum ∧ sumG Cnt.down (accA xs) = (xs.map fun x => x.2.2).sum
  | 0, xs, h => by
    rw [List.length_eq_zero_iff.1 h]
    exact ⟨rfl, rfl, rfl, rfl⟩
  | n + 1, xs, h => by
    rcases List.eq_nil_or_concat xs with rfl | ⟨m, x, rfl⟩
    · simp at h
    · rw [List.concat_eq_append] at *
      obtain ⟨h1, h2, h3, h4⟩ := acc_tells k n m (by simpa using h)
      obtain ⟨g1, g2, g3, g4⟩ := up_add (accA m) x.1 x.2.1 x.2.2 k
      rw [accA_snoc]
      refine ⟨?_, ?_, ?_, ?_⟩
      · rw [g1, h1]; simp [toldUp]
      · rw [g2, h2]; simp [toldDown]
      · rw [g3, h3]; simp
      · rw [g4, h4]; simp
/-- In which order. -/
theorem acc_rev (xs : List Plus) (k : Nat) : ofG Cnt.up (accA xs.reverse) k = ofG Cnt.up (accA xs) k ∧ ofG Cnt.down (accA xs.reverse) k = ofG Cnt.down (accA xs) k ∧ sumG Cnt.up (accA xs.reverse) = sumG Cnt.up (accA xs) ∧ sumG Cnt.down (accA xs.reverse) = sumG Cnt.down (accA xs) := by
  obtain ⟨h1, h2, h3, h4⟩ := acc_tells k _ xs rfl
  obtain ⟨g1, g2, g3, g4⟩ := acc_tells k _ xs.reverse rfl
  refine ⟨?_, ?_, ?_, ?_⟩
  · rw [h1, g1]; simp [toldUp, List.map_reverse, List.sum_reverse]
  · rw [h2, g2]; simp [toldDown, List.map_reverse, List.sum_reverse]
  · rw [h3, g3]; simp [List.map_reverse, List.sum_reverse]
  · rw [h4, g4]; simp [List.map_reverse, List.sum_reverse]
theorem acc_len (xs : List Plus) : (accA xs).length ≤ xs.length := by
  induction hn : xs.length generalizing xs with
  | zero => rw [List.length_eq_zero_iff.1 hn]; simp [accA]
  | succ n ih =>
    rcases List.eq_nil_or_concat xs with rfl | ⟨m, x, rfl⟩
    · simp at hn
    · rw [List.concat_eq_append] at *
      rw [accA_snoc]
      have h1 := addS_len (accA m) x.1 x.2.1 x.2.2
      have h2 := ih m (by simpa using hn)
      omega
theorem acc_under (xs : List Plus) (h : ∀ x ∈ xs, x.2.1 ≤ 1073741824 ∧ x.2.2 ≤ 1073741824) : Under (xs.length * 1073741824) (accA xs) := by
  induction hn : xs.length generalizing xs with
  | zero => rw [List.length_eq_zero_iff.1 hn]; intro r hr; simp [accA] at hr
  | succ n ih =>
    rcases List.eq_nil_or_concat xs with rfl | ⟨m, x, rfl⟩
    · simp at hn
    · rw [List.concat_eq_append] at *
      rw [accA_snoc]
      have hx := h x (by simp)
      have h2 := under_add (key := x.1) (ih m (fun y hy => h y (by simp [hy])) (by simpa using hn)) hx.1 hx.2
      rw [Nat.succ_mul]
      exact h2
end Go.Proofs.Ytifaclbafmpiiaa.Tal
