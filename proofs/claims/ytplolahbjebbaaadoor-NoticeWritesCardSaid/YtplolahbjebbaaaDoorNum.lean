/- The reference's Num, of every number below 2^64: its decimal digits. -/
import Derived.Test.YtplolahbjebbaaaDoorStr
import Derived.WalkLawsBesides
import Derived.WalkSpells
import Derived.Lib.Hide
namespace Go.Proofs.YtplolahbjebbaaaDoor.Pfx
open Go.RowKit

theorem digit_piece : ∀ n : Fin 10, (ByteArray.mk #[48, 49, 50, 51, 52, 53, 54, 55, 56, 57]).extract n.val (n.val + 1) = strOf [UInt8.ofNat (48 + n.val)] := by decide +kernel

theorem num_one (n : Nat) (h : n < 10) (w : World) : Calls Tryd.prog 35 #[.int .u64 n] w fun e w' => e = .returned (.string (strOf (dec n))) ∧ w = w' := by
  have hp := digit_piece ⟨n, h⟩
  simp only at hp
  rw [dec_one h]
  go_enter Tryd.func35, Tryd.ntmps35
  go_wp2_with fail
  go_ret
  exact ⟨by simp, rfl⟩
theorem num_all : ∀ (n : Nat), n < 18446744073709551616 → ∀ w : World, Calls Tryd.prog 35 #[.int .u64 n] w fun e w' => e = .returned (.string (strOf (dec n))) ∧ w = w' := by
  intro n
  induction n using Nat.strongRecOn with
  | _ n ih =>
    intro h w
    by_cases h1 : n < 10
    · exact num_one n h1 w
    · have l1 := Dec.dec_len (n / 10) 20 (by omega) (by omega)
      have l2 := Dec.dec_len (n % 10) 20 (by omega) (by omega)
      have s1 : ¬ 9223372036854775807 < (strOf (dec (n / 10))).size + (strOf (dec (n % 10))).size := by rw [strOf_size, strOf_size]; omega
      have q1 := ih (n / 10) (by omega) (by omega)
      rw [show ((n / 10 : Nat) : Int) = (n : Int) / 10 by omega] at q1
      have C1 := Go.Lib.hid q1
      have q2 := num_one (n % 10) (by omega)
      rw [show ((n % 10 : Nat) : Int) = (n : Int) % 10 by omega] at q2
      have C2 := Go.Lib.hid q2
      clear q1 q2 ih
      have E : Hid (dec n = dec (n / 10) ++ dec (n % 10)) := Go.Lib.hid (by rw [dec_step h1, dec_one (show n % 10 < 10 by omega)])
      go_enter Tryd.func35, Tryd.ntmps35
      go_wp2_with (first | (go_at_call 35; with_reducible refine (C1.out _).mono ?_; rintro e w1 ⟨rfl, rfl⟩) | (go_at_call 35; with_reducible refine (C2.out _).mono ?_; rintro e w1 ⟨rfl, rfl⟩))
      go_ret
      exact ⟨by rw [E.out, ← strOf_append]; rfl, rfl⟩

end Go.Proofs.YtplolahbjebbaaaDoor.Pfx
