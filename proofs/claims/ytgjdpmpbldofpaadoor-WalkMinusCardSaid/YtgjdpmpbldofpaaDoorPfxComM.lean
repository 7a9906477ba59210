/- Pure: how many bits two addresses have alike, and what two prefixes have in common. It speaks of no function of the program. -/
import Derived.Test.YtgjdpmpbldofpaaDoorPfxMath
import Derived.Lib.BitFns
import Derived.Lib.ItoaNum
namespace Go.Proofs.YtgjdpmpbldofpaaDoor.Pfx
open Go

/-- How many bits two addresses have alike from the highest one on. -/
def alikeN (a b : Nat) : Nat := 32 - Lib.bitLen (a ^^^ b)
theorem alike_le (a b : Nat) : alikeN a b ≤ 32 := by unfold alikeN; omega
theorem xor_lt (a b : Nat) (ha : a < 4294967296) (hb : b < 4294967296) : a ^^^ b < 4294967296 := Nat.xor_lt_two_pow (n := 32) (by omega) (by omega)
theorem cut_eq_iff (a b j : Nat) : cutN a j = cutN b j ↔ a / 2 ^ (32 - j) = b / 2 ^ (32 - j) := by
  unfold cutN
  exact ⟨fun h => Nat.eq_of_mul_eq_mul_right (pow_pos _) h, fun h => by rw [h]⟩
theorem xor_div (a b j : Nat) : (a ^^^ b) / 2 ^ j = a / 2 ^ j ^^^ b / 2 ^ j := by
  apply Nat.eq_of_testBit_eq
  intro i
  simp [Nat.testBit_div_two_pow, Nat.testBit_xor]
theorem xor_zero {a b : Nat} : a ^^^ b = 0 ↔ a = b := by
  constructor
  · intro h
    apply Nat.eq_of_testBit_eq
    intro i
    have h2 := congrArg (·.testBit i) h
    simp only [Nat.testBit_xor, Nat.zero_testBit] at h2
    revert h2
    cases a.testBit i <;> cases b.testBit i <;> simp
  · rintro rfl; exact Nat.xor_self a
theorem alike_iff (a b j : Nat) (ha : a < 4294967296) (hb : b < 4294967296) (hj : j ≤ 32) : j ≤ alikeN a b ↔ cutN a j = cutN b j := by
  have hx := xor_lt a b ha hb
  have hl : Lib.bitLen (a ^^^ b) ≤ 32 := Lib.bitLen_le _ 32 (by omega) (by simpa using hx)
  have s1 : (a ^^^ b) < 2 ^ Lib.bitLen (a ^^^ b) := by
    by_cases h0 : a ^^^ b = 0
    · rw [h0]; decide
    · exact (Lib.bitLenAux_bounds 64 _ (by omega) h0).2.2
  have s2 : a ^^^ b ≠ 0 → 2 ^ (Lib.bitLen (a ^^^ b) - 1) ≤ a ^^^ b := fun h0 => (Lib.bitLenAux_bounds 64 _ (by omega) h0).2.1
  rw [cut_eq_iff, ← xor_zero, ← xor_div]
  unfold alikeN
  constructor
  · intro h
    apply Nat.div_eq_of_lt
    exact Nat.lt_of_lt_of_le s1 (Nat.pow_le_pow_right (by decide) (by omega))
  · intro h
    have h3 : (a ^^^ b) < 2 ^ (32 - j) := by
      rcases Nat.lt_or_ge (a ^^^ b) (2 ^ (32 - j)) with h4 | h4
      · exact h4
      · have := Nat.div_pos h4 (pow_pos _); omega
    by_cases h0 : a ^^^ b = 0
    · rw [h0]; have : Lib.bitLen 0 = 0 := by decide
      omega
    · have h4 := s2 h0
      have h5 : 2 ^ (Lib.bitLen (a ^^^ b) - 1) < 2 ^ (32 - j) := Nat.lt_of_le_of_lt h4 h3
      have h6 := (Nat.pow_lt_pow_iff_right (by decide : 1 < 2)).1 h5
      omega
theorem cut_succ (a k : Nat) (hk : k < 32) : cutN a (k + 1) = cutN a k + bitN a k * 2 ^ (31 - k) := by
  unfold cutN bitN
  rw [show 32 - (k + 1) = 31 - k by omega, pow_split k hk, ← Nat.div_div_eq_div_mul]
  generalize 2 ^ (31 - k) = t
  generalize a / t = z
  rw [Nat.mul_comm t 2, ← Nat.mul_assoc, ← Nat.add_mul]
  congr 1; omega

/-- How long what two prefixes have in common is. -/
def comN (pa k qa l : Nat) : Nat := min (min k l) (alikeN pa qa)
theorem com_parts (pa k qa l : Nat) (hpa : pa < 4294967296) (hqa : qa < 4294967296) : comN pa k qa l ≤ k ∧ comN pa k qa l ≤ l ∧ comN pa k qa l ≤ 32 ∧ cutN pa (comN pa k qa l) = cutN qa (comN pa k qa l) := by
  have h1 := alike_le pa qa
  have h2 : comN pa k qa l ≤ alikeN pa qa := Nat.min_le_right _ _
  have h3 : comN pa k qa l ≤ min k l := Nat.min_le_left _ _
  exact ⟨by omega, by omega, by omega, (alike_iff pa qa _ hpa hqa (by omega)).1 h2⟩
theorem com_last (pa k qa l : Nat) (hpa : pa < 4294967296) (hqa : qa < 4294967296) (hk : k ≤ 32) (h1 : comN pa k qa l < k) (h2 : comN pa k qa l < l) : bitN pa (comN pa k qa l) ≠ bitN qa (comN pa k qa l) := by
  intro e
  have hp := com_parts pa k qa l hpa hqa
  have h3 := (alike_iff pa qa (comN pa k qa l + 1) hpa hqa (by omega)).2 (by rw [cut_succ _ _ (by omega), cut_succ _ _ (by omega), hp.2.2.2, e])
  have h4 : comN pa k qa l = min (min k l) (alikeN pa qa) := rfl
  omega
end Go.Proofs.YtgjdpmpbldofpaaDoor.Pfx
