/- asn's Is. -/
import Derived.Test.YtcdbeljmniaofaaGreatDoorSetSame
namespace Go.Proofs.YtcdbeljmniaofaaGreatDoor.Nums
open Go.RowKit Mem Rise

set_option maxHeartbeats 1000000 in
theorem is_any (v : Value) (l : List Nat) (w : World) (hv : U32s w v l) : Calls Tryz.prog 48 #[v] w (Tells (.bool (decide (rising l))) w) := by
  have HV := Go.Lib.hid hv
  obtain ⟨A, c, rfl, hlc, hc, -, -⟩ := hv.open_
  clear hv
  go_enter Tryz.func48, Tryz.ntmps48
  go_wp2
  go_loopw [3] (fun i wr => ∃ k q : Nat, 1 ≤ k ∧ k ≤ l.length + 1 ∧ i = .int .i64 k ∧ Hid (rising (l.take k)) ∧ wr = w.drewN q) (fun i _ => l.length + 1 - (intOf i).toNat)
  case atStart => exact ⟨1, 0, Nat.le_refl _, by omega, rfl, by unfold Hid rising; cases l with
    | nil => simp
    | cons a m => simp, rfl⟩
  case round =>
    obtain ⟨k, q, hk1, hk, rfl, hs, rfl⟩ := hrel
    by_cases hlt : k < l.length
    · obtain ⟨b0, off, x, rfl, hb0, hx, hx32, hcell⟩ := (HV.out).at_ (k := k - 1) (by omega)
      obtain ⟨b1, off1, y, he, hb1, hy, hy32, hcell1⟩ := (HV.out).at_ (k := k) (by omega)
      injection he with he
      injection he with h1 h2
      subst h1 h2
      have k0 : (0 : Int) ≤ (k : Int) - 1 := by omega
      have k1 : (k : Int) < (l.length : Int) := by omega
      have k3 : (1 : Int) ≤ (k : Int) := by omega
      have HR := Go.Lib.hid (rising_take hk1 hx hy hs.out)
      clear hx hy
      by_cases hxy : x < y
      · have ht : decide ((y : Int) ≤ (x : Int)) = false := by simp; omega
        go_wp2
        go_quiet (fail)
        all_goals go_wp2
        all_goals go_roundw
        case rel => exact ⟨k + 1, _, by omega, by omega, by go_num, (HR.out).2 hxy, rfl⟩
        case measure => simp [intOf]; omega
      · have ht : decide ((y : Int) ≤ (x : Int)) = true := by simp; omega
        have HN := Go.Lib.hid (show ¬ rising l from fun h => hxy ((HR.out).1 (rising_sub _ h)))
        go_wp2
        go_quiet (fail)
        all_goals go_wp2
        all_goals go_ret
        all_goals exact ⟨ret_bool (decide_eq_false HN.out).symm, Below.tr (below_drewN _ _) (below_drewN _ _)⟩
    · have HK := Go.Lib.hid (show rising l by
        have := hs.out
        rwa [List.take_of_length_le (by omega)] at this)
      go_wp2
      go_ret
      exact ⟨ret_bool (decide_eq_true HK.out).symm, below_drewN _ _⟩
end Go.Proofs.YtcdbeljmniaofaaGreatDoor.Nums
