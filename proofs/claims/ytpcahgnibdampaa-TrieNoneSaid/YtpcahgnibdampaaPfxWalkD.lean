/- The contracts of Cmp, Make, Halves. -/
import Derived.Test.YtpcahgnibdampaaPfxWalkC
namespace Go.Proofs.Ytpcahgnibdampaa.Pfx
open Go.RowKit Go.Sort

/-- Which of two numbers is less. -/
def cmpI (x y : Int) : Int := if x < y then -1 else if y < x then 1 else 0
theorem cmpI_lt {x y : Int} (h : x < y) : cmpI x y = -1 := by unfold cmpI; rw [if_pos h]
theorem cmpI_gt {x y : Int} (h : y < x) : cmpI x y = 1 := by unfold cmpI; rw [if_neg (by omega), if_pos h]
theorem cmpI_eq (x : Int) : cmpI x x = 0 := by unfold cmpI; rw [if_neg (by omega), if_neg (by omega)]


theorem make_in (a n : Nat) (ha : a < 4294967296) (hn : n ≤ 32) (w : World) :
    Calls Try.prog 32 #[.int .u32 a, .int .i64 n] w fun e w' => e = .returned (.tuple #[.agg #[.int .u32 (cutN a n : Int), .int .i64 n], .int .i64 0]) ∧ Below w.heap.size w w' := by
  have hf : fitsB (n : Int) = true := fitsB_yes (by omega) (by omega)
  go_enter Try.func32, Try.ntmps32
  go_wp2_with (first | (go_at_call 54; refine (fits_any _ _).mono ?_; rintro e w1 ⟨rfl, rfl⟩) | (go_at_call 55; refine (cut_exact _ _ ha hn _).mono ?_; rintro e w2 ⟨rfl, rfl⟩))
  refine bodyPost_ret (v := .tuple #[.agg #[.int .u32 (cutN a n : Int), .int .i64 n], .int .i64 0]) (by simp [results, Try.results32, go_sem]) rfl ⟨rfl, below_new2 _ _ _⟩
theorem make_out (a : Nat) (n : Int) (hn : n < 0 ∨ 32 < n) (w : World) :
    Calls Try.prog 32 #[.int .u32 a, .int .i64 n] w fun e w' => e = .returned (.tuple #[.agg #[.int .u32 0, .int .i64 0], .int .i64 1]) ∧ Below w.heap.size w w' := by
  have hf : fitsB n = false := fitsB_no hn
  have hb := below_new w (.cells #[.int .u32 0, .int .i64 0] 25)
  go_enter Try.func32, Try.ntmps32
  go_wp2_with (first | (go_at_call 54; refine (fits_any _ _).mono ?_; rintro e w1 ⟨rfl, rfl⟩))
  refine bodyPost_ret (v := .tuple #[.agg #[.int .u32 0, .int .i64 0], .int .i64 1]) (by simp [results, Try.results32, go_sem]) rfl ⟨rfl, hb⟩

end Go.Proofs.Ytpcahgnibdampaa.Pfx
