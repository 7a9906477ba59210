/- Plain mathematics of points and counts. It imports nothing of the program. -/
import GoSem.Claim
import Derived.WalkKit
namespace Go.Proofs.Ytifaclbafmpiiaa.Tal

/-- Which numbers may be squared. -/
def smallB (x : Int) : Bool := decide (-1048576 ≤ x) && decide (x ≤ 1048576)
/-- How far a point lies from the middle, and two from one another. -/
def farS (x y : Int) : Int := if smallB x && smallB y then x * x + y * y else 0
def apartS (a0 a1 b0 b1 : Int) : Int := if smallB a0 && smallB a1 && smallB b0 && smallB b1 then (a0 - b0) * (a0 - b0) + (a1 - b1) * (a1 - b1) else 0
theorem small_iff {x : Int} : smallB x = true ↔ -1048576 ≤ x ∧ x ≤ 1048576 := by simp [smallB]
theorem sq_bound {x n : Int} (h1 : -n ≤ x) (h2 : x ≤ n) : 0 ≤ x * x ∧ x * x ≤ n * n := by
  have h3 : x.natAbs ≤ n.natAbs := by omega
  have h4 : 0 ≤ n := by omega
  have e1 : x * x = ((x.natAbs * x.natAbs : Nat) : Int) := by rw [Int.natCast_mul, Int.natAbs_mul_self']
  have e2 : n * n = ((n.natAbs * n.natAbs : Nat) : Int) := by rw [Int.natCast_mul, Int.natAbs_mul_self']
  rw [e1, e2]
  have h5 := Nat.mul_le_mul h3 h3
  omega
theorem wrap_id {x : Int} (h1 : -9223372036854775808 ≤ x) (h2 : x ≤ 9223372036854775807) : IntKind.i64.wrap x = x := by rw [IntKind.wrap_i64]; omega
theorem prod_bound {x y n : Int} (h1 : -n ≤ x) (h2 : x ≤ n) (h3 : -n ≤ y) (h4 : y ≤ n) : -(n * n) ≤ x * y ∧ x * y ≤ n * n := by
  have h5 : (x * y).natAbs ≤ n.natAbs * n.natAbs := by
    rw [Int.natAbs_mul]
    exact Nat.mul_le_mul (by omega) (by omega)
  have e2 : n * n = ((n.natAbs * n.natAbs : Nat) : Int) := by rw [Int.natCast_mul, Int.natAbs_mul_self']
  rw [e2]
  omega
theorem times_id (p q r s : Int) : (p * r - q * s) * (p * r - q * s) + (p * s + q * r) * (p * s + q * r) = (p * p + q * q) * (r * r + s * s) := by grind
theorem apart_comm (a0 a1 b0 b1 : Int) : apartS b0 b1 a0 a1 = apartS a0 a1 b0 b1 := by
  unfold apartS
  have e : (smallB b0 && smallB b1 && smallB a0 && smallB a1) = (smallB a0 && smallB a1 && smallB b0 && smallB b1) := by
    cases smallB a0 <;> cases smallB a1 <;> cases smallB b0 <;> cases smallB b1 <;> rfl
  rw [e]
  split
  · grind
  · rfl
end Go.Proofs.Ytifaclbafmpiiaa.Tal
