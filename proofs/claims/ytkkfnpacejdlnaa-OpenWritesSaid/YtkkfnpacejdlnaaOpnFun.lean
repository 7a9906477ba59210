/- The program's small functions of an Open: holds, Good, fault, Hold, Keep. -/
import Derived.Test.YtkkfnpacejdlnaaOpnMath
import Derived.Test.YtkkfnpacejdlnaaOctWst
import Derived.Test.YtkkfnpacejdlnaaBoxes
import Derived.Lib.Hide
namespace Go.Proofs.Ytkkfnpacejdlnaa.Opn
open Go.RowKit Mem Oct Att

def opn (o : Op) : Value := .agg #[.int .u32 o.an, .int .i64 o.hold, .int .u32 o.ri, .bool o.four]
def holdN (a b : Int) : Int := max (min a b) 0
def keepN (a : Int) : Int := max a 0 / 3
theorem holdsB_cases (n : Int) : (n = 0 ∧ holdsB n = true) ∨ (n ≠ 0 ∧ n < 3 ∧ holdsB n = false) ∨ (3 ≤ n ∧ n ≤ 65535 ∧ holdsB n = true) ∨ (65535 < n ∧ holdsB n = false) := by
  by_cases h0 : n = 0
  · exact .inl ⟨h0, by unfold holdsB; simp [h0]⟩
  · by_cases h1 : n < 3
    · exact .inr (.inl ⟨h0, h1, by unfold holdsB; simp [h0]; omega⟩)
    · by_cases h2 : n ≤ 65535
      · exact .inr (.inr (.inl ⟨by omega, h2, by unfold holdsB; simp [h0]; omega⟩))
      · exact .inr (.inr (.inr ⟨by omega, by unfold holdsB; simp [h0]; omega⟩))
theorem pholds_any (n : Int) (w : World) : Calls Try.prog 26 #[.int .i64 n] w (Tells (.bool (holdsB n)) w) := by
  rcases holdsB_cases n with ⟨rfl, e⟩ | ⟨h0, h1, e⟩ | ⟨h1, h2, e⟩ | ⟨h1, e⟩
  · rw [e]
    clear e
    go_enter Try.func26, Try.ntmps26
    go_wp2
    go_ret
    exact ⟨rfl, Below.refl _ _⟩
  · rw [e]
    clear e
    have y0 : (n == 0) = false := by simp [h0]
    have y1 : decide (3 ≤ n) = false := by simp; omega
    clear h0 h1
    go_enter Try.func26, Try.ntmps26
    go_wp2
    go_ret
    exact ⟨rfl, Below.refl _ _⟩
  · rw [e]
    clear e
    have y0 : (n == 0) = false := by simp; omega
    go_enter Try.func26, Try.ntmps26
    go_wp2
    go_ret
    exact ⟨rfl, Below.refl _ _⟩
  · rw [e]
    clear e
    have y0 : (n == 0) = false := by simp; omega
    have y1 : decide (n ≤ 65535) = false := by simp; omega
    have y2 : 3 ≤ n := by omega
    clear h1
    go_enter Try.func26, Try.ntmps26
    go_wp2
    go_ret
    exact ⟨rfl, Below.refl _ _⟩
theorem wrap_third (a : Int) (h : 0 ≤ a) (hw : (Lit.int .i64 a).wf = true) : wrap64 (a.tdiv 3) = a / 3 := by
  simp only [Lit.wf, IntKind.min, IntKind.max, IntKind.signed, IntKind.bits] at hw
  simp at hw
  rw [Int.tdiv_eq_ediv_of_nonneg h]
  unfold wrap64
  omega
theorem keep_any (a : Int) (ha : (Lit.int .i64 a).wf = true) (w : World) : Calls Try.prog 19 #[.int .i64 a] w (Tells (.int .i64 (keepN a)) w) := by
  have HW := Go.Lib.hid (fun h => wrap_third a h ha)
  clear ha
  go_enter Try.func19, Try.ntmps19
  go_wp2
  case inl =>
    go_ret
    exact ⟨congrArg Ending.returned (congrArg (Value.int .i64) (by unfold keepN; rw [Int.max_eq_right (by omega)]; unfold wrap64; omega)), Below.refl _ _⟩
  case inr =>
    go_ret
    exact ⟨by unfold keepN; rw [Int.max_eq_left (by omega), ← HW.out (by omega)]; rfl, Below.refl _ _⟩
theorem hold_any (a b : Int) (w : World) : Calls Try.prog 18 #[.int .i64 a, .int .i64 b] w (Tells (.int .i64 (holdN a b)) w) := by
  go_enter Try.func18, Try.ntmps18
  go_wp2
  all_goals go_ret
  all_goals refine ⟨?_, Below.refl _ _⟩
  all_goals refine congrArg Ending.returned (congrArg (Value.int .i64) ?_)
  all_goals unfold holdN
  all_goals omega
theorem fault_any (s : Int) (A : Option Addr) (n c : Nat) (w : World) : Calls Try.prog 33 #[.int .i64 s, .slice A n c] w (Tells (.agg #[.int .i64 2, .int .i64 s, .slice A n c]) w) := by
  have HB := Go.Lib.hid ((Below.refl w.heap.size w).alloc (Nat.le_refl _) (.cells #[.int .i64 2, .int .i64 s, .slice A n c] 32))
  go_enter Try.func33, Try.ntmps33
  go_wp2
  (try simp only [Exit.inBlock, Exit.then])
  refine bodyPost_ret (v := .agg #[.int .i64 2, .int .i64 s, .slice A n c]) (by simp [results, Try.results33, go_sem]) rfl ?_
  exact ⟨rfl, HB.out⟩
theorem pgood_any (o : Op) (w : World) : Calls Try.prog 8 #[opn o] w (Tells (.bool (goodO o)) w) := by
  obtain ⟨an, hold, ri, fr⟩ := o
  unfold opn goodO
  dsimp only
  have CH := Go.Lib.hid (fun W => pholds_any hold W)
  have HX := Go.Lib.hid (Box4.new w 24 (.int .u32 an) (.int .i64 hold) (.int .u32 ri) (.bool fr))
  have HB := Go.Lib.hid ((Below.refl w.heap.size w).alloc (Nat.le_refl _) (.cells #[.int .u32 an, .int .i64 hold, .int .u32 ri, .bool fr] 24))
  obtain ⟨c0, c1, c2, c3⟩ := HX.out.cells
  generalize holdsB hold = hb at CH ⊢
  rcases Nat.eq_zero_or_pos an with rfl | h1
  · simp only [ne_eq, not_true_eq_false, decide_false, Bool.false_and]
    go_enter Try.func8, Try.ntmps8
    go_wp2
    go_ret
    exact ⟨rfl, HB.out⟩
  have y1 : ((an : Int) != 0) = true := by simp; omega
  rw [decide_eq_true (show an ≠ 0 by omega)]
  simp only [Bool.true_and]
  rcases Nat.eq_zero_or_pos ri with rfl | h2
  · simp only [ne_eq, not_true_eq_false, decide_false, Bool.false_and]
    by_cases h3 : an < 65536
    · have z1 : (an : Int) ≤ 65535 := by omega
      cases fr <;> (go_enter Try.func8, Try.ntmps8; go_wp2; go_ret; exact ⟨rfl, HB.out⟩)
    · have z1 : decide ((an : Int) ≤ 65535) = false := by simp; omega
      cases fr <;> (go_enter Try.func8, Try.ntmps8; go_wp2; go_ret; exact ⟨rfl, HB.out⟩)
  have y2 : ((ri : Int) != 0) = true := by simp; omega
  rw [decide_eq_true (show ri ≠ 0 by omega)]
  simp only [Bool.true_and]
  by_cases h3 : an < 65536
  · have z1 : (an : Int) ≤ 65535 := by omega
    rw [decide_eq_true h3]
    cases fr <;> cases hb <;> (go_enter Try.func8, Try.ntmps8; go_wp2_with (go_at_call 26; refine (CH.out _).mono ?_; rintro e x ⟨rfl, hb1⟩; have B1 := Go.Lib.hid (HB.out.trans (hb1.mono HB.out.size)); clear hb1); go_ret; exact ⟨rfl, B1.out⟩)
  · have z1 : decide ((an : Int) ≤ 65535) = false := by simp; omega
    rw [decide_eq_false h3]
    cases fr with
    | true => cases hb <;> (go_enter Try.func8, Try.ntmps8; go_wp2_with (go_at_call 26; refine (CH.out _).mono ?_; rintro e x ⟨rfl, hb1⟩; have B1 := Go.Lib.hid (HB.out.trans (hb1.mono HB.out.size)); clear hb1); go_ret; exact ⟨rfl, B1.out⟩)
    | false =>
      go_enter Try.func8, Try.ntmps8
      go_wp2
      go_ret
      exact ⟨by simp, HB.out⟩
end Go.Proofs.Ytkkfnpacejdlnaa.Opn
