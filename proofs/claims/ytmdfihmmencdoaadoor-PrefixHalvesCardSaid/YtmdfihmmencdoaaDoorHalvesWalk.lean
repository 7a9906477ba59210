/- PrefixHalves: the law's walk. Both halves of any prefix. -/
import Derived.Test.YtmdfihmmencdoaaDoorPfxLives
import Derived.Test.YtmdfihmmencdoaaDoorPfxHalves
import Derived.Test.YtmdfihmmencdoaaDoorApartWalk
namespace Go.Proofs.YtmdfihmmencdoaaDoor.Pfx
open Go.RowKit Go.Sort

theorem cov_one {pa k a : Nat} (hg : goodB pa (k : Int) = true) : coversB pa (k : Int) a 32 = decide (cutN a k = pa) := by
  have hl := goodB_len hg
  have h32 : goodB a 32 = true := by
    have := goodB_in (a := a) (k := 32) (by omega)
    rw [show ((32 : Nat) : Int) = 32 from rfl] at this
    rw [this, cutN_32]; simp
  unfold coversB hasB
  rw [hg, h32, decide_eq_true (by omega : (k : Int) ≤ 32)]
  simp

theorem halvesLaw_bad (pa : Nat) (pn : Int) (a : Nat) (hpa : pa < 4294967296) (hg : goodB pa pn = false) (w : World) :
    Calls Tryd.prog 5 #[.agg #[.int .u32 pa, .int .i64 pn], .int .u32 a] w fun e w' => e = .returned (.bool true) ∧ Below w.heap.size w w' := by
  have hb := below_new w (.cells #[.int .u32 (pa : Int), .int .i64 pn] 24)
  obtain ⟨c0, c1⟩ := cells_two w (.int .u32 (pa : Int)) (.int .i64 pn) 24
  have CH := Go.Lib.hid (halves_bad pa pn hpa (.inl hg))
  go_enter Tryd.func5, Tryd.ntmps5
  go_wp2_with fail
  generalize w.alloc (.cells #[.int .u32 (pa : Int), .int .i64 pn] 24) = W at hb c0 c1 ⊢
  go_wp2_with (first | (go_at_call 23; refine (CH.out _).mono ?_; rintro e w1 ⟨rfl, hb1⟩; replace c0 := keeps hb1 c0; replace c1 := keeps hb1 c1; replace hb := Below.tr hb hb1; clear hb1; have hz := block_lt_of_cell c0; have hz2 : ¬ w.heap.size = w1.heap.size := Nat.ne_of_lt hz; have hz3 : ¬ w.heap.size = w1.heap.size + 1 := by (have hz4 := hz; simp only at hz4; omega)) | (go_at_call 12; fail))
  obtain ⟨x0, x1, y0, y1⟩ := cells_four w1 (.int .u32 0) (.int .i64 0) (.int .u32 0) (.int .i64 0) 24
  have hq := below_new2 w1 (.cells #[.int .u32 0, .int .i64 0] 24) (.cells #[.int .u32 0, .int .i64 0] 24)
  replace c0 := keeps hq c0
  replace c1 := keeps hq c1
  replace hb := Below.tr hb hq
  clear hq
  generalize (w1.alloc (.cells #[.int .u32 0, .int .i64 0] 24)).alloc (.cells #[.int .u32 0, .int .i64 0] 24) = W at hb c0 c1 x0 x1 y0 y1 ⊢
  go_wp2_with (first | (go_at_call 12; refine (refGood_any _ _ hpa _).mono ?_; rintro e w1 ⟨rfl, hb1⟩; replace c0 := keeps hb1 c0; replace c1 := keeps hb1 c1; replace x0 := keeps hb1 x0; replace x1 := keeps hb1 x1; replace y0 := keeps hb1 y0; replace y1 := keeps hb1 y1; replace hb := Below.tr hb hb1; clear hb1) | (go_at_call 15; refine (lives_any _).mono ?_; rintro e w3 ⟨rfl, hb1⟩; replace hb := Below.tr hb hb1; clear hb1))
  go_ret
  exact ⟨rfl, hb⟩

theorem halvesLaw_32 (pa a : Nat) (hpa : pa < 4294967296) (hg : goodB pa 32 = true) (w : World) :
    Calls Tryd.prog 5 #[.agg #[.int .u32 pa, .int .i64 32], .int .u32 a] w fun e w' => e = .returned (.bool true) ∧ Below w.heap.size w w' := by
  have hb := below_new w (.cells #[.int .u32 (pa : Int), .int .i64 32] 24)
  obtain ⟨c0, c1⟩ := cells_two w (.int .u32 (pa : Int)) (.int .i64 32) 24
  have CH := Go.Lib.hid (halves_bad pa 32 hpa (.inr rfl))
  go_enter Tryd.func5, Tryd.ntmps5
  go_wp2_with fail
  generalize w.alloc (.cells #[.int .u32 (pa : Int), .int .i64 32] 24) = W at hb c0 c1 ⊢
  go_wp2_with (first | (go_at_call 23; refine (CH.out _).mono ?_; rintro e w1 ⟨rfl, hb1⟩; replace c0 := keeps hb1 c0; replace c1 := keeps hb1 c1; replace hb := Below.tr hb hb1; clear hb1; have hz := block_lt_of_cell c0; have hz2 : ¬ w.heap.size = w1.heap.size := Nat.ne_of_lt hz; have hz3 : ¬ w.heap.size = w1.heap.size + 1 := by (have hz4 := hz; simp only at hz4; omega)) | (go_at_call 12; fail))
  obtain ⟨x0, x1, y0, y1⟩ := cells_four w1 (.int .u32 0) (.int .i64 0) (.int .u32 0) (.int .i64 0) 24
  have hq := below_new2 w1 (.cells #[.int .u32 0, .int .i64 0] 24) (.cells #[.int .u32 0, .int .i64 0] 24)
  replace c0 := keeps hq c0
  replace c1 := keeps hq c1
  replace hb := Below.tr hb hq
  clear hq
  generalize (w1.alloc (.cells #[.int .u32 0, .int .i64 0] 24)).alloc (.cells #[.int .u32 0, .int .i64 0] 24) = W at hb c0 c1 x0 x1 y0 y1 ⊢
  go_wp2_with (first | (go_at_call 12; refine (refGood_any _ _ hpa _).mono ?_; rintro e w1 ⟨rfl, hb1⟩; replace c0 := keeps hb1 c0; replace c1 := keeps hb1 c1; replace x0 := keeps hb1 x0; replace x1 := keeps hb1 x1; replace y0 := keeps hb1 y0; replace y1 := keeps hb1 y1; replace hb := Below.tr hb hb1; clear hb1) | (go_at_call 15; refine (lives_any _).mono ?_; rintro e w3 ⟨rfl, hb1⟩; replace hb := Below.tr hb hb1; clear hb1))
  go_ret
  exact ⟨rfl, hb⟩

set_option maxHeartbeats 400000 in
theorem halvesLaw_good (pa k a : Nat) (bp bx b_y : Bool) (hpa : pa < 4294967296) (ha : a < 4294967296) (hk : k < 32) (hg : goodB pa (k : Int) = true)
    (ep : coversB pa (k : Int) a 32 = bp) (ex : coversB pa ((k : Int) + 1) a 32 = bx) (ey : coversB (highN pa k) ((k : Int) + 1) a 32 = b_y)
    (hcases : (bp = true ∧ bx = true ∧ b_y = false) ∨ (bp = true ∧ bx = false ∧ b_y = true) ∨ (bp = false ∧ bx = false ∧ b_y = false)) (w : World) :
    Calls Tryd.prog 5 #[.agg #[.int .u32 pa, .int .i64 k], .int .u32 a] w fun e w' => e = .returned (.bool true) ∧ Below w.heap.size w w' := by
  have hb := below_new w (.cells #[.int .u32 (pa : Int), .int .i64 k] 24)
  obtain ⟨c0, c1⟩ := cells_two w (.int .u32 (pa : Int)) (.int .i64 k) 24
  have hcut := goodB_cut hg
  have hh := high_lt pa k hk hpa hcut
  have hne := high_ne pa k
  have hneI : (pa : Int) < (highN pa k : Int) := by omega
  have e1 : ((k + 1 : Nat) : Int) = (k : Int) + 1 := by omega
  have hgx : goodB pa ((k : Int) + 1) = true := by rw [← e1, goodB_in (by omega)]; exact decide_eq_true (low_cut pa k hk hcut)
  have hgy : goodB (highN pa k) ((k : Int) + 1) = true := by rw [← e1, goodB_in (by omega)]; exact decide_eq_true (high_cut pa k hk hcut)
  have hH := halves_good pa k hpa hg hk
  rw [e1] at hH
  have CH := Go.Lib.hid hH
  clear hH
  have CRx := Go.Lib.hid (hgx ▸ refGood_any pa ((k : Int) + 1) hpa)
  have CRy := Go.Lib.hid (hgy ▸ refGood_any (highN pa k) ((k : Int) + 1) hh)
  have CCp := Go.Lib.hid (ep ▸ refCovers_any pa k a 32 hpa ha)
  have CCx := Go.Lib.hid (ex ▸ refCovers_any pa ((k : Int) + 1) a 32 hpa ha)
  have CCy := Go.Lib.hid (ey ▸ refCovers_any (highN pa k) ((k : Int) + 1) a 32 hh ha)
  have hk32 : ¬ (k : Int) = 32 := by omega
  have hk32b : ((k : Int) == 32) = false := by simpa using hk32
  clear hgx hgy e1 ep ex ey hcut
  go_enter Tryd.func5, Tryd.ntmps5
  go_wp2_with fail
  generalize w.alloc (.cells #[.int .u32 (pa : Int), .int .i64 k] 24) = W at hb c0 c1 ⊢
  go_wp2_with (first | (go_at_call 23; refine (CH.out _).mono ?_; rintro e w1 ⟨rfl, hb1⟩; replace c0 := keeps hb1 c0; replace c1 := keeps hb1 c1; replace hb := Below.tr hb hb1; clear hb1; have hz := block_lt_of_cell c0; have hz2 : ¬ w.heap.size = w1.heap.size := Nat.ne_of_lt hz; have hz3 : ¬ w.heap.size = w1.heap.size + 1 := by (have hz4 := hz; simp only at hz4; omega)) | (go_at_call 12; fail))
  obtain ⟨x0, x1, y0, y1⟩ := cells_four w1 (.int .u32 (pa : Int)) (.int .i64 ((k : Int) + 1)) (.int .u32 (highN pa k : Int)) (.int .i64 ((k : Int) + 1)) 24
  have hq := below_new2 w1 (.cells #[.int .u32 (pa : Int), .int .i64 ((k : Int) + 1)] 24) (.cells #[.int .u32 (highN pa k : Int), .int .i64 ((k : Int) + 1)] 24)
  replace c0 := keeps hq c0
  replace c1 := keeps hq c1
  replace hb := Below.tr hb hq
  clear hq
  generalize (w1.alloc (.cells #[.int .u32 (pa : Int), .int .i64 ((k : Int) + 1)] 24)).alloc (.cells #[.int .u32 (highN pa k : Int), .int .i64 ((k : Int) + 1)] 24) = W at hb c0 c1 x0 x1 y0 y1 ⊢
  go_wp2_with (go_at_call 12; refine (refGood_any _ _ hpa _).mono ?_; rintro e w2 ⟨rfl, hb1⟩; replace c0 := keeps hb1 c0; replace c1 := keeps hb1 c1; replace x0 := keeps hb1 x0; replace x1 := keeps hb1 x1; replace y0 := keeps hb1 y0; replace y1 := keeps hb1 y1; replace hb := Below.tr hb hb1; clear hb1)
  obtain ⟨z0, z1⟩ := cells_two w2 (.int .u32 (a : Int)) (.int .i64 32) 24
  have hq := below_new w2 (.cells #[.int .u32 (a : Int), .int .i64 32] 24)
  replace c0 := keeps hq c0
  replace c1 := keeps hq c1
  replace x0 := keeps hq x0
  replace x1 := keeps hq x1
  replace y0 := keeps hq y0
  replace y1 := keeps hq y1
  replace hb := Below.tr hb hq
  clear hq
  generalize w2.alloc (.cells #[.int .u32 (a : Int), .int .i64 32] 24) = W at hb c0 c1 x0 x1 y0 y1 z0 z1 ⊢
  have k0 := cell_regrown c0
  have k1 := cell_regrown c1
  have k2 := cell_regrown x0
  have k3 := cell_regrown x1
  have k4 := cell_regrown y0
  have k5 := cell_regrown y1
  have k6 := cell_regrown z0
  have k7 := cell_regrown z1
  have cRx := inRegion CRx.out W
  have cRy := inRegion CRy.out W
  have cCp := inRegion CCp.out W
  have cCx := inRegion CCx.out W
  have cCy := inRegion CCy.out W
  have cL := inRegion lives_any W
  clear c0 c1 x0 x1 y0 y1 z0 z1
  rcases hcases with ⟨rfl, rfl, rfl⟩ | ⟨rfl, rfl, rfl⟩ | ⟨rfl, rfl, rfl⟩
  · refine wp_region_quiet_below (by kernel_rfl) (by kernel_rfl) ?_
    repeat (first | go_big_quiet_step (first | with_reducible exact cRx _ _ | with_reducible exact cRy _ _ | with_reducible exact cCp _ _ | with_reducible exact cCx _ _ | with_reducible exact cCy _ _ | with_reducible exact cL _ _) | quiet_step (first | with_reducible exact cRx _ _ | with_reducible exact cRy _ _ | with_reducible exact cCp _ _ | with_reducible exact cCx _ _ | with_reducible exact cCy _ _ | with_reducible exact cL _ _))
    refine wpQuiet_nil ?_
    intro _ hw'
    obtain ⟨⟨dq, osq⟩, hw''⟩ := hw'
    subst hw''
    go_wp2_with fail
    go_ret
    exact ⟨rfl, Below.tr hb (below_regrown W dq osq)⟩
  · refine wp_region_quiet_below (by kernel_rfl) (by kernel_rfl) ?_
    repeat (first | go_big_quiet_step (first | with_reducible exact cRx _ _ | with_reducible exact cRy _ _ | with_reducible exact cCp _ _ | with_reducible exact cCx _ _ | with_reducible exact cCy _ _ | with_reducible exact cL _ _) | quiet_step (first | with_reducible exact cRx _ _ | with_reducible exact cRy _ _ | with_reducible exact cCp _ _ | with_reducible exact cCx _ _ | with_reducible exact cCy _ _ | with_reducible exact cL _ _))
    refine wpQuiet_nil ?_
    intro _ hw'
    obtain ⟨⟨dq, osq⟩, hw''⟩ := hw'
    subst hw''
    go_wp2_with fail
    go_ret
    exact ⟨rfl, Below.tr hb (below_regrown W dq osq)⟩
  · refine wp_region_quiet_below (by kernel_rfl) (by kernel_rfl) ?_
    repeat (first | go_big_quiet_step (first | with_reducible exact cRx _ _ | with_reducible exact cRy _ _ | with_reducible exact cCp _ _ | with_reducible exact cCx _ _ | with_reducible exact cCy _ _ | with_reducible exact cL _ _) | quiet_step (first | with_reducible exact cRx _ _ | with_reducible exact cRy _ _ | with_reducible exact cCp _ _ | with_reducible exact cCx _ _ | with_reducible exact cCy _ _ | with_reducible exact cL _ _))
    refine wpQuiet_nil ?_
    intro _ hw'
    obtain ⟨⟨dq, osq⟩, hw''⟩ := hw'
    subst hw''
    go_wp2_with fail
    go_ret
    exact ⟨rfl, Below.tr hb (below_regrown W dq osq)⟩

theorem halves_walk (pa : Nat) (pn : Int) (a : Nat) (hpa : pa < 4294967296) (ha : a < 4294967296) (w : World) :
    Calls Tryd.prog 5 #[.agg #[.int .u32 pa, .int .i64 pn], .int .u32 a] w fun e w' => e = .returned (.bool true) ∧ Below w.heap.size w w' := by
  cases hg : goodB pa pn
  · exact halvesLaw_bad pa pn a hpa hg w
  have hl := goodB_len hg
  obtain ⟨k, rfl⟩ := Int.eq_ofNat_of_zero_le hl.1
  by_cases hk : k < 32
  · have hcut := goodB_cut hg
    have e1 : ((k + 1 : Nat) : Int) = (k : Int) + 1 := by omega
    have hgx : goodB pa ((k + 1 : Nat) : Int) = true := by rw [goodB_in (by omega)]; exact decide_eq_true (low_cut pa k hk hcut)
    have hgy : goodB (highN pa k) ((k + 1 : Nat) : Int) = true := by rw [goodB_in (by omega)]; exact decide_eq_true (high_cut pa k hk hcut)
    have ep := cov_one (a := a) hg
    have ex := cov_one (a := a) hgx
    have ey := cov_one (a := a) hgy
    rw [e1] at ex ey
    refine halvesLaw_good pa k a _ _ _ hpa ha hk hg ep ex ey ?_ w
    have hc := halves_cover pa k a hk hcut
    have hn := high_ne pa k
    simp only [decide_eq_true_eq, decide_eq_false_iff_not]
    by_cases h1 : cutN a (k + 1) = pa
    · exact .inl ⟨hc.2 (.inl h1), h1, by omega⟩
    · by_cases h2 : cutN a (k + 1) = highN pa k
      · exact .inr (.inl ⟨hc.2 (.inr h2), h1, h2⟩)
      · exact .inr (.inr ⟨fun h => (hc.1 h).elim h1 h2, h1, h2⟩)
  · obtain rfl : k = 32 := by omega
    exact halvesLaw_32 pa a hpa hg w

end Go.Proofs.YtmdfihmmencdoaaDoor.Pfx
