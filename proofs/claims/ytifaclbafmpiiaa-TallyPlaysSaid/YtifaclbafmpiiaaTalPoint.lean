/- Far and Apart: the squares of how far points lie apart, reckoned with complex numbers, are whole numbers exactly. -/
import Derived.Test.YtifaclbafmpiiaaMem
import Derived.Test.YtifaclbafmpiiaaTalMath
import Derived.Test.YtifaclbafmpiiaaTalFloat
import Derived.Outline
import Derived.BigQuiet
import Derived.LoopN
import Derived.Lib.QuietBelow
import Derived.WalkLawsBesides
namespace Go.Proofs.Ytifaclbafmpiiaa.Tal
open Go.RowKit Mem

theorem idx0 (x y : Int) (W : World) : (Instr.index 48 (.agg #[.int .i64 x, .int .i64 y]) (.int .i64 0)).run Try.prog W = .ok (.int .i64 x) W := by
  simp [Instr.index, run_underlying Try.underlying48, asIntOf, go_sem]
theorem idx1 (x y : Int) (W : World) : (Instr.index 48 (.agg #[.int .i64 x, .int .i64 y]) (.int .i64 1)).run Try.prog W = .ok (.int .i64 y) W := by
  simp [Instr.index, run_underlying Try.underlying48, asIntOf, go_sem]
set_option maxRecDepth 100000 in
set_option maxHeartbeats 2000000 in
theorem near_any (x y : Int) (w : World) : Calls Try.prog 26 #[.agg #[.int .i64 x, .int .i64 y]] w (Tells (.bool (smallB x && smallB y)) w) := by
  have HB := Go.Lib.hid (show Below w.heap.size w (w.alloc (.cells #[.int .i64 x, .int .i64 y] 48)) from (Below.refl _ w).alloc (Nat.le_refl _) _)
  obtain ⟨q, hq⟩ : ∃ q, q = (smallB x && smallB y) := ⟨_, rfl⟩
  rw [← hq]
  have HQ := Go.Lib.hid hq
  clear hq
  have i0 := idx0 x y
  have i1 := idx1 x y
  by_cases h1 : x < -1048576
  · have hx : q = false := by rw [HQ.out]; simp [smallB]; omega
    subst hx
    go_enter Try.func26, Try.ntmps26
    go_wp2
    refine wp_loop_rounds 2 ?_
    rw [rounds_succ]
    go_wp2
    go_ret
    exact ⟨rfl, HB.out⟩
  · by_cases h2 : 1048576 < x
    · have hx : q = false := by rw [HQ.out]; simp [smallB]; omega
      subst hx
      go_enter Try.func26, Try.ntmps26
      go_wp2
      refine wp_loop_rounds 2 ?_
      rw [rounds_succ]
      go_wp2
      go_ret
      exact ⟨rfl, HB.out⟩
    · by_cases h3 : y < -1048576
      · have hx : q = false := by rw [HQ.out]; simp [smallB]; omega
        subst hx
        go_enter Try.func26, Try.ntmps26
        go_wp2
        refine wp_loop_rounds 3 ?_
        rw [rounds_succ]
        go_wp2
        rw [rounds_succ]
        go_wp2
        go_ret
        exact ⟨rfl, HB.out⟩
      · by_cases h4 : 1048576 < y
        · have hx : q = false := by rw [HQ.out]; simp [smallB]; omega
          subst hx
          go_enter Try.func26, Try.ntmps26
          go_wp2
          refine wp_loop_rounds 3 ?_
          rw [rounds_succ]
          go_wp2
          rw [rounds_succ]
          go_wp2
          go_ret
          exact ⟨rfl, HB.out⟩
        · have hx : q = true := by rw [HQ.out]; simp [smallB]; omega
          subst hx
          go_enter Try.func26, Try.ntmps26
          go_wp2
          refine wp_loop_rounds 4 ?_
          rw [rounds_succ]
          go_wp2
          rw [rounds_succ]
          go_wp2
          rw [rounds_succ]
          go_wp2
          go_ret
          exact ⟨rfl, HB.out⟩

theorem run_int_float (n : Int) (W : World) : (convert 3 73 (.int .i64 n)).run Try.prog W = .ok (.float .f64 (floatOfInt .f64 n)) W := by
  simp [convert, run_underlying Try.underlying3, run_underlying Try.underlying73, Conv.intToFloat, floatOfInt, go_sem]
set_option maxRecDepth 100000 in
set_option maxHeartbeats 2000000 in
theorem point_any (x y : Int) (w : World) : Calls Try.prog 28 #[.agg #[.int .i64 x, .int .i64 y]] w (Tells (.complex .f64 (floatOfInt .f64 x) (floatOfInt .f64 y)) w) := by
  have HB := Go.Lib.hid (show Below w.heap.size w (w.alloc (.cells #[.int .i64 x, .int .i64 y] 48)) from (Below.refl _ w).alloc (Nat.le_refl _) _)
  have e0 := run_int_float x
  have e1 := run_int_float y
  go_enter Try.func28, Try.ntmps28
  go_wp2
  go_ret
  exact ⟨rfl, HB.out⟩
theorem mul_bits {a b : Nat} {n k : Int} (ha : FV a n) (hb : FV b k) (h1 : n.natAbs ≤ 2097152) (h2 : k.natAbs ≤ 2097152) :
    ∃ re im, cMulBits a b a (Op.negFloat .f64 b) = some (re, im) ∧ FV re (n * n + k * k) := by
  have m1 := prod_bound (x := n) (y := n) (n := 2097152) (by omega) (by omega) (by omega) (by omega)
  have m2 := prod_bound (x := k) (y := k) (n := 2097152) (by omega) (by omega) (by omega) (by omega)
  have m3 := prod_bound (x := n) (y := k) (n := 2097152) (by omega) (by omega) (by omega) (by omega)
  have m4 := prod_bound (x := k) (y := n) (n := 2097152) (by omega) (by omega) (by omega) (by omega)
  have f1 : n * -k = -(n * k) := Int.mul_neg ..
  have f2 : k * -k = -(k * k) := Int.mul_neg ..
  obtain ⟨ac, c1, v1⟩ := fv_mul ha ha (by omega)
  obtain ⟨bd, c2, v2⟩ := fv_mul hb (fv_neg hb) (by omega)
  obtain ⟨re, c3, v3⟩ := fv_sub v1 v2 (by omega)
  obtain ⟨ad, c4, v4⟩ := fv_mul ha (fv_neg hb) (by omega)
  obtain ⟨bc, c5, v5⟩ := fv_mul hb ha (by omega)
  obtain ⟨im, c6, v6⟩ := fv_add v4 v5 (by omega)
  refine ⟨re, im, ?_, ?_⟩
  · unfold cMulBits
    simp only [c1, c2, c3, c4, c5, c6, Option.bind_some]
  · rw [f2] at v3
    have e : n * n - -(k * k) = n * n + k * k := by omega
    rw [e] at v3
    exact v3
set_option maxRecDepth 100000 in
set_option maxHeartbeats 2000000 in
theorem square_any (a b : Nat) (n k : Int) (w : World) (ha : FV a n) (hb : FV b k) (h1 : n.natAbs ≤ 2097152) (h2 : k.natAbs ≤ 2097152) :
    Calls Try.prog 27 #[.complex .f64 a b] w (Tells (.int .i64 (n * n + k * k)) w) := by
  have HB := Go.Lib.hid (Below.refl w.heap.size w)
  obtain ⟨re, im, hm, hv⟩ := mul_bits ha hb h1 h2
  have m1 := prod_bound (x := n) (y := n) (n := 2097152) (by omega) (by omega) (by omega) (by omega)
  have m2 := prod_bound (x := k) (y := k) (n := 2097152) (by omega) (by omega) (by omega) (by omega)
  have hi := fv_toInt hv (by omega)
  have e0 : ∀ W, (binOp .mul 68 (.complex .f64 a b) (.complex .f64 a (Op.negFloat .f64 b))).run Try.prog W = .ok (.complex .f64 re im) W := fun W => run_complex_mul W _ _ _ _ _ _ _ hm
  have e1 : ∀ W, (convert 73 3 (.float .f64 re)).run Try.prog W = .ok (.int .i64 (n * n + k * k)) W := fun W => run_convert_float_int W _ _ _ _ _ _ (by rw [Try.underlying73]; rfl) Try.underlying3 hi
  have e2 : ∀ W, (Op.unary UnOp.neg (.float .f64 b)).run Try.prog W = .ok (.float .f64 (Op.negFloat .f64 b)) W := fun W => by simp [Op.unary]
  clear m1 m2 hi hm
  generalize n * n + k * k = z at e1 ⊢
  go_enter Try.func27, Try.ntmps27
  go_wp2
  go_ret
  exact ⟨rfl, HB.out⟩
theorem keeps {W w1 : World} (hb : Below W.heap.size W w1) {a : Addr} {v : Value} (h : W.cell? a = some v) : w1.cell? a = some v := by
  rw [hb.cell (block_lt_of_cell h)]; exact h
/-- A callee's contract, met within a region that draws its order. -/
theorem inReg {f : FuncId} {args : Array Value} {v : Value} (h : ∀ W, Calls Try.prog f args W (Tells v W)) (W : World) (d : Nat) (os : Array Obj) :
    Calls Try.prog f args (Go.Sort.grow (redrawn W d) os) fun e w'' => e = .returned v ∧ ∃ p : Regrown, w'' = Go.Sort.grow (redrawn W p.d) p.os := Calls.regrown_of (h _)

set_option maxRecDepth 100000 in
set_option maxHeartbeats 4000000 in
theorem apart_any (x y z u : Int) (w : World) :
    Calls Try.prog 22 #[.agg #[.int .i64 x, .int .i64 y], .agg #[.int .i64 z, .int .i64 u]] w (Tells (.int .i64 (apartS x y z u)) w) := by
  have HB0 : Below w.heap.size w ((w.alloc (.cells #[.int .i64 x, .int .i64 y] 48)).alloc (.cells #[.int .i64 z, .int .i64 u] 48)) := ((Below.refl _ w).alloc (Nat.le_refl _) _).alloc (by simp) _
  obtain ⟨W0, hW0⟩ : ∃ W0, W0 = (w.alloc (.cells #[.int .i64 x, .int .i64 y] 48)).alloc (.cells #[.int .i64 z, .int .i64 u] 48) := ⟨_, rfl⟩
  have k0 : W0.cell? ⟨w.heap.size, 0, none⟩ = some (.int .i64 x) := by rw [hW0]; simp
  have k1 : W0.cell? ⟨w.heap.size, 1, none⟩ = some (.int .i64 y) := by rw [hW0]; simp
  have k2 : W0.cell? ⟨w.heap.size + 1, 0, none⟩ = some (.int .i64 z) := by rw [hW0]; simp
  have k3 : W0.cell? ⟨w.heap.size + 1, 1, none⟩ = some (.int .i64 u) := by rw [hW0]; simp
  rw [← hW0] at HB0
  have HW := Go.Lib.hid hW0
  have HBW := Go.Lib.hid HB0
  clear hW0
  have CA := Go.Lib.hid (fun W => near_any x y W)
  have CB := Go.Lib.hid (fun W => near_any z u W)
  have CP := Go.Lib.hid (fun W => point_any x y W)
  have CQ := Go.Lib.hid (fun W => point_any z u W)
  obtain ⟨R, hR⟩ : ∃ R, R = apartS x y z u := ⟨_, rfl⟩
  rw [← hR]
  cases s0 : (smallB x && smallB y)
  · rw [s0] at CA
    have hx : R = 0 := by rw [hR]; unfold apartS; rw [s0]; rfl
    subst hx
    clear hR
    go_enter Try.func22, Try.ntmps22
    go_wp2_with fail
    try (rw [← HW.out])
    go_wp2_with (go_at_call 26; refine (CA.out _).mono ?_; rintro e w1 ⟨rfl, hb1⟩; have HB1 := Go.Lib.hid hb1)
    go_ret
    exact ⟨rfl, HB0.trans (HB1.out.mono HB0.size)⟩
  · rw [s0] at CA
    cases s1 : (smallB z && smallB u)
    · rw [s1] at CB
      have hx : R = 0 := by rw [hR]; unfold apartS; rw [s0, Bool.true_and, s1]; rfl
      subst hx
      clear hR
      go_enter Try.func22, Try.ntmps22
      go_wp2_with fail
      try (rw [← HW.out])
      go_wp2_with (first
        | (go_at_call 26; have h2 := HB1.out; refine (CB.out _).mono ?_; rintro e w2 ⟨rfl, hb2⟩; have HB2 := Go.Lib.hid (HB1.out.trans (hb2.mono HB1.out.size)))
        | (go_at_call 26; refine (CA.out _).mono ?_; rintro e w1 ⟨rfl, hb1⟩; have HB1 := Go.Lib.hid hb1; replace k2 := keeps hb1 k2; replace k3 := keeps hb1 k3))
      go_ret
      exact ⟨rfl, HB0.trans (HB2.out.mono HB0.size)⟩
    · rw [s1] at CB
      have hx : R = (x - z) * (x - z) + (y - u) * (y - u) := by
        rw [hR]; unfold apartS
        rw [s0, Bool.true_and, s1]; rfl
      have b0 := small_iff.1 (show smallB x = true by simp only [Bool.and_eq_true] at s0; exact s0.1)
      have b1 := small_iff.1 (show smallB y = true by simp only [Bool.and_eq_true] at s0; exact s0.2)
      have b2 := small_iff.1 (show smallB z = true by simp only [Bool.and_eq_true] at s1; exact s1.1)
      have b3 := small_iff.1 (show smallB u = true by simp only [Bool.and_eq_true] at s1; exact s1.2)
      obtain ⟨re, h1, v1⟩ := fv_sub (fv_int x (by omega)) (fv_int z (by omega)) (by omega)
      obtain ⟨im, h2, v2⟩ := fv_sub (fv_int y (by omega)) (fv_int u (by omega)) (by omega)
      have hsub : cSumBits .sub .f64 (floatOfInt .f64 x) (floatOfInt .f64 y) (floatOfInt .f64 z) (floatOfInt .f64 u) = some (re, im) := by
        unfold cSumBits; simp only [h1, h2, Option.bind_some]
      have CS := Go.Lib.hid (fun W => square_any re im (x - z) (y - u) W v1 v2 (by omega) (by omega))
      have e0 : ∀ W, (binOp .sub 68 (.complex .f64 (floatOfInt .f64 x) (floatOfInt .f64 y)) (.complex .f64 (floatOfInt .f64 z) (floatOfInt .f64 u))).run Try.prog W = .ok (.complex .f64 re im) W := fun W => run_complex_sum W _ (.inr rfl) _ _ _ _ _ _ _ _ hsub
      rw [← hx] at CS
      clear hx hsub h1 h2 v1 v2 b0 b1 b2 b3 hR s0 s1
      generalize floatOfInt .f64 x = fx at CP e0
      generalize floatOfInt .f64 y = fy at CP e0
      generalize floatOfInt .f64 z = fz at CQ e0
      generalize floatOfInt .f64 u = fu at CQ e0
      go_enter Try.func22, Try.ntmps22
      go_wp2_with fail
      try (rw [← HW.out])
      go_wp2_with (first
        | (go_at_call 26; have h2 := HB1.out; refine (CB.out _).mono ?_; rintro e w2 ⟨rfl, hb2⟩; have HB2 := Go.Lib.hid (HB1.out.trans (hb2.mono HB1.out.size)); replace k0 := keeps hb2 k0; replace k1 := keeps hb2 k1; replace k2 := keeps hb2 k2; replace k3 := keeps hb2 k3; generalize w2 = W at HB2 k0 k1 k2 k3 ⊢)
        | (go_at_call 26; refine (CA.out _).mono ?_; rintro e w1 ⟨rfl, hb1⟩; have HB1 := Go.Lib.hid hb1; replace k0 := keeps hb1 k0; replace k1 := keeps hb1 k1; replace k2 := keeps hb1 k2; replace k3 := keeps hb1 k3))
      replace k0 := cell_regrown k0
      replace k1 := cell_regrown k1
      replace k2 := cell_regrown k2
      replace k3 := cell_regrown k3
      have d1 := inReg CP.out W
      have d2 := inReg CQ.out W
      have d3 := inReg CS.out W
      refine wp_region_quiet_below (by kernel_rfl) (by kernel_rfl) ?_
      repeat (first | go_big_quiet_step (first | with_reducible exact d1 _ _ | with_reducible exact d2 _ _ | with_reducible exact d3 _ _) | quiet_step (first | with_reducible exact d1 _ _ | with_reducible exact d2 _ _ | with_reducible exact d3 _ _))
      refine wpQuiet_nil ?_
      intro _ hw'
      obtain ⟨⟨dq, osq⟩, hw''⟩ := hw'
      subst hw''
      have hr := Go.Lib.hid (below_regrown W dq osq)
      clear d1 d2 d3 k0 k1 k2 k3
      generalize Go.Sort.grow (redrawn W dq) osq = W2 at hr ⊢
      go_wp2
      go_ret
      exact ⟨rfl, HB0.trans ((HB2.out.trans (hr.out.mono HB2.out.size)).mono HB0.size)⟩
theorem far_any (x y : Int) (w : World) : Calls Try.prog 21 #[.int .i64 x, .int .i64 y] w (Tells (.int .i64 (farS x y)) w) := by
  have e : farS x y = apartS x y 0 0 := by
    have h0 : smallB 0 = true := by decide
    unfold farS apartS
    rw [h0, Bool.and_true, Bool.and_true]
    simp only [Int.sub_zero]
  rw [e]
  have C := Go.Lib.hid (fun W => apart_any x y 0 0 W)
  generalize apartS x y 0 0 = R at C ⊢
  go_enter Try.func21, Try.ntmps21
  go_wp2_with (go_at_call 22; refine (C.out _).mono ?_; rintro e w1 ⟨rfl, hb1⟩)
  go_ret
  exact ⟨rfl, hb1⟩
end Go.Proofs.Ytifaclbafmpiiaa.Tal
