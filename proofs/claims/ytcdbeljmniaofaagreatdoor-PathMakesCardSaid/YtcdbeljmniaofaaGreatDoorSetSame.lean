/- Lists that are one: the reference's Same, 'slices.Equal' and asn's Same; Is. -/
import Derived.Test.YtcdbeljmniaofaaGreatDoorSetRef3
import Derived.BigQuiet
import Derived.Deep.QuietTactic
namespace Go.Proofs.YtcdbeljmniaofaaGreatDoor.Nums
open Go.RowKit Mem Rise

theorem eq_snoc {a b : List Nat} {k : Nat} (h : a.take k = b.take k) (he : a[k]? = b[k]?) : a.take (k + 1) = b.take (k + 1) := by
  rw [List.take_add_one, List.take_add_one, h, he]

set_option maxHeartbeats 1000000 in
theorem refSame_any (va vb : Value) (a b : List Nat) (w : World) (ha : U32s w va a) (hb : U32s w vb b) :
    Calls Tryz.prog 15 #[va, vb] w (Tells (.bool (decide (a = b))) w) := by
  have HA := Go.Lib.hid ha
  have HB := Go.Lib.hid hb
  obtain ⟨A, c, rfl, hlc, hc, -, -⟩ := ha.open_
  obtain ⟨B, d, rfl, hld, hd, -, -⟩ := hb.open_
  clear ha hb
  by_cases hl : a.length = b.length
  · have ht : ((a.length : Int) != (b.length : Int)) = false := by rw [hl]; simp
    have h1 : a.length ≤ b.length := by omega
    have h2 : b.length ≤ a.length := by omega
    clear hl
    go_enter Tryz.func15, Tryz.ntmps15
    go_wp2
    go_loopw [5] (fun i wr => ∃ k q : Nat, k ≤ a.length ∧ i = .int .i64 k ∧ Hid (a.take k = b.take k) ∧ wr = w.drewN q) (fun i _ => a.length - (intOf i).toNat)
    case atStart => exact ⟨0, 0, Nat.zero_le _, rfl, by unfold Hid; simp, rfl⟩
    case round =>
      obtain ⟨k, q, hk, rfl, hs, rfl⟩ := hrel
      by_cases hlt : k < a.length
      · obtain ⟨b0, off, x, rfl, hb0, hx, hx32, hcell⟩ := (HA.out).at_ hlt
        obtain ⟨b1, off1, y, rfl, hb1, hy, hy32, hcell1⟩ := (HB.out).at_ (k := k) (by omega)
        have k0 : (0 : Int) ≤ (k : Int) := by omega
        have k1 : (k : Int) < (a.length : Int) := by omega
        have k2 : (k : Int) < (b.length : Int) := by omega
        by_cases he : x = y
        · subst he
          have HE := Go.Lib.hid (eq_snoc hs.out (hx.trans hy.symm))
          clear hx hy
          go_wp2
          go_quiet (fail)
          all_goals go_wp2
          all_goals go_roundw
          case rel => exact ⟨k + 1, _, by omega, by go_num, HE, rfl⟩
          case measure => simp [intOf]; omega
        · have hne : ((x : Int) != (y : Int)) = true := by simp; omega
          have HN := Go.Lib.hid (show ¬ a = b by
            intro e
            rw [e, hy] at hx
            injection hx with hx
            exact he hx.symm)
          clear hx hy he
          go_wp2
          go_quiet (fail)
          all_goals go_wp2
          all_goals go_ret
          all_goals exact ⟨ret_bool (decide_eq_false HN.out).symm, Below.tr (below_drewN _ _) (below_drewN _ _)⟩
      · have HK := Go.Lib.hid (show a = b by
          have := hs.out
          rwa [List.take_of_length_le (by omega), List.take_of_length_le (by omega)] at this)
        go_wp2
        go_ret
        exact ⟨ret_bool (decide_eq_true HK.out).symm, below_drewN _ _⟩
  · have ht : ((a.length : Int) != (b.length : Int)) = true := by simp; omega
    have HN := Go.Lib.hid (show ¬ a = b from fun e => hl (by rw [e]))
    clear hl
    go_enter Tryz.func15, Tryz.ntmps15
    go_wp2
    go_ret
    exact ⟨ret_bool (decide_eq_false HN.out).symm, Below.refl _ _⟩

theorem rising_take {l : List Nat} {k : Nat} (hk : 1 ≤ k) {x y : Nat} (hx : l[k - 1]? = some x) (hy : l[k]? = some y) (h : rising (l.take k)) : rising (l.take (k + 1)) ↔ x < y := by
  have e1 : l.take k = l.take (k - 1) ++ [x] := by
    have := take_snoc hx
    rwa [show k - 1 + 1 = k by omega] at this
  rw [take_snoc hy, e1]
  rw [e1] at h
  unfold rising at h ⊢
  rw [List.pairwise_append] at h ⊢
  constructor
  · intro h2
    exact h2.2.2 x (by simp) y (by simp)
  · intro hxy
    refine ⟨List.pairwise_append.2 h, by simp, fun z hz u hu => ?_⟩
    simp only [List.mem_singleton] at hu
    subst hu
    rcases List.mem_append.1 hz with hz | hz
    · exact Nat.lt_trans (h.2.2 z hz x (by simp)) hxy
    · rw [List.mem_singleton.1 hz]; exact hxy
theorem rising_sub {l : List Nat} (k : Nat) (h : rising l) : rising (l.take k) := List.Pairwise.sublist (List.take_sublist k l) h
end Go.Proofs.YtcdbeljmniaofaaGreatDoor.Nums
