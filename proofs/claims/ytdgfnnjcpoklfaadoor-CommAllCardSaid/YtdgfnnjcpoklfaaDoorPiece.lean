/- A text cut to a length, as the laws cut it. -/
import Derived.Test.YtdgfnnjcpoklfaaDoorStr
namespace Go.Proofs.YtdgfnnjcpoklfaaDoor.Pfx
open Go.RowKit
/-- The text that a law goes on with: of a long one its first signs. -/
theorem piece (s : ByteArray) (N : Nat) : ∃ l : List UInt8, l.length ≤ N ∧ ((s.size ≤ N ∧ s = strOf l) ∨ (N < s.size ∧ s.extract 0 N = strOf l)) := by
  by_cases h : s.size ≤ N
  · exact ⟨s.data.toList, by simpa using h, .inl ⟨h, by unfold strOf; simp⟩⟩
  · refine ⟨s.data.toList.take N, by simp; omega, .inr ⟨by omega, ?_⟩⟩
    have := Lib.extract_data s 0 N
    apply ByteArray.ext
    apply Array.ext'
    rw [this]
    simp [strOf]
end Go.Proofs.YtdgfnnjcpoklfaaDoor.Pfx
