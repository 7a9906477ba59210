/- A number's last ten bits. It imports nothing of the program. -/
import Derived.Laws.BitsLemmas
import GoSem.Claim
import Derived.WalkKit
namespace Go.Proofs.Ytifaclbafmpiiaa.Tal
open Go

/-- What is left of a number by the mask 1023. -/
theorem and_1023 (n : Int) : bits .and .i64 n 1023 = n % 1024 := by
  have hm : (BitVec.ofInt 64 1023).toNat = 2 ^ 10 - 1 := by decide
  have hk : (BitVec.ofInt 64 n &&& BitVec.ofInt 64 1023).toNat = (n % ((2 ^ 64 : Nat) : Int)).toNat % 2 ^ 10 := by
    rw [BitVec.toNat_and, hm, Nat.and_two_pow_sub_one_eq_mod, BitVec.toNat_ofInt]
  show IntKind.i64.wrap ((BitVec.ofInt 64 n &&& BitVec.ofInt 64 1023).toNat : Nat) = n % 1024
  rw [hk, IntKind.wrap_i64]
  omega
theorem mask_nat (n : Int) : bits .and .i64 n 1023 = ((n % 1024).toNat : Int) ∧ (n % 1024).toNat ≤ 1023 := by
  rw [and_1023]
  omega
end Go.Proofs.Ytifaclbafmpiiaa.Tal
