/- The program's valid, fits and fault. -/
import Derived.Test.YtgeekckoepnccaaFrmHead
namespace Go.Proofs.Ytgeekckoepnccaa.Frm
open Go.RowKit Mem Oct Att
open Go.Lib (hid)

theorem valid_any (k : Int) (w : World) : Calls Try.prog 24 #[.int .i64 k] w (Tells (.bool (decide (1 ≤ k ∧ k ≤ 4))) w) := by
  have HB := hid (Below.refl w.heap.size w)
  by_cases h : 1 ≤ k
  · rw [show decide (1 ≤ k ∧ k ≤ 4) = decide (k ≤ 4) from decide_eq_decide.2 (by omega)]
    have z : k ≥ 1 := h
    go_enter Try.func24, Try.ntmps24
    go_wp2
    go_ret
    exact ⟨rfl, HB.out⟩
  · rw [decide_eq_false (show ¬ (1 ≤ k ∧ k ≤ 4) by omega)]
    have z : k < 1 := by omega
    go_enter Try.func24, Try.ntmps24
    go_wp2
    go_ret
    exact ⟨rfl, HB.out⟩
/-- Of one of the four types. -/
theorem fits_any (T N : Nat) (w : World) (h1 : 1 ≤ T) (h4 : T ≤ 4) (hN : 19 ≤ N) : Calls Try.prog 37 #[.int .i64 T, .int .i64 N] w (Tells (.bool (!decide (N < leastH T ∨ (T = 4 ∧ 19 < N)))) w) := by
  have HB := hid (Below.refl w.heap.size w)
  rcases (show T = 1 ∨ T = 2 ∨ T = 3 ∨ T = 4 by omega) with rfl | rfl | rfl | rfl
  · rw [show (!decide (N < leastH 1 ∨ (1 = 4 ∧ 19 < N))) = decide ((N : Int) ≥ 29) from by rw [← decide_not]; exact decide_eq_decide.2 (by have : leastH 1 = 29 := rfl; omega)]
    go_enter Try.func37, Try.ntmps37
    go_wp2
    go_ret
    exact ⟨rfl, HB.out⟩
  · rw [show (!decide (N < leastH 2 ∨ (2 = 4 ∧ 19 < N))) = decide ((N : Int) ≥ 23) from by rw [← decide_not]; exact decide_eq_decide.2 (by have : leastH 2 = 23 := rfl; omega)]
    go_enter Try.func37, Try.ntmps37
    go_wp2
    go_ret
    exact ⟨rfl, HB.out⟩
  · rw [show (!decide (N < leastH 3 ∨ (3 = 4 ∧ 19 < N))) = decide ((N : Int) ≥ 21) from by rw [← decide_not]; exact decide_eq_decide.2 (by have : leastH 3 = 21 := rfl; omega)]
    go_enter Try.func37, Try.ntmps37
    go_wp2
    go_ret
    exact ⟨rfl, HB.out⟩
  · rw [show (!decide (N < leastH 4 ∨ (4 = 4 ∧ 19 < N))) = decide ((N : Int) = 19) from by rw [← decide_not]; exact decide_eq_decide.2 (by have : leastH 4 = 19 := rfl; omega)]
    go_enter Try.func37, Try.ntmps37
    go_wp2
    go_ret
    exact ⟨rfl, HB.out⟩
set_option maxHeartbeats 1000000 in
theorem fault_any (s : Int) (A : Option Addr) (k c : Nat) (w : World) : Calls Try.prog 36 #[.int .i64 s, .slice A k c] w (Tells (.agg #[.int .i64 1, .int .i64 s, .slice A k c]) w) := by
  have BB := hid (box_low w (.int .i64 1) (.int .i64 s) (.slice A k c))
  go_enter Try.func36, Try.ntmps36
  go_wp2
  refine bodyPost_ret (v := .agg #[.int .i64 1, .int .i64 s, .slice A k c]) (by simp [results, Try.results36, go_sem]) rfl ?_
  exact ⟨rfl, BB.out⟩
end Go.Proofs.Ytgeekckoepnccaa.Frm
