/- PrefixCovers: the law's walk. Which of any two prefixes covers the other one, comes first, and what both have in common. -/
import Derived.Test.YtmdfihmmencdoaaDoorPfxLives
import Derived.Test.YtmdfihmmencdoaaDoorPfxCommon
namespace Go.Proofs.YtmdfihmmencdoaaDoor.Pfx
open Go.RowKit Go.Sort

theorem has_one (pa : Nat) (pn : Int) (a : Nat) : coversB pa pn a 32 = hasB pa pn a := by
  have h32 : goodB a 32 = true := by
    have := goodB_in (a := a) (k := 32) (by omega)
    rw [show ((32 : Nat) : Int) = 32 from rfl] at this
    rw [this, cutN_32]; simp
  unfold coversB
  rw [h32, Bool.true_and]
  cases h : hasB pa pn a
  · simp
  · have hl := goodB_len (hasB_parts h).1
    rw [decide_eq_true hl.2]; rfl

set_option maxHeartbeats 1000000 in
theorem coversLaw_bad1 (pa : Nat) (pn : Int) (qa : Nat) (qn : Int) (a : Nat) (hpa : pa < 4294967296) (hqa : qa < 4294967296) (ha : a < 4294967296) (hp : goodB pa pn = false) (w : World) :
    Calls Tryd.prog 4 #[.agg #[.int .u32 pa, .int .i64 pn], .agg #[.int .u32 qa, .int .i64 qn], .int .u32 a] w fun e w' => e = .returned (.bool true) ∧ Below w.heap.size w w' := by
  have hb := below_new2 w (.cells #[.int .u32 (pa : Int), .int .i64 pn] 24) (.cells #[.int .u32 (qa : Int), .int .i64 qn] 24)
  obtain ⟨c0, c1, c2, c3⟩ := cells_four w (.int .u32 (pa : Int)) (.int .i64 pn) (.int .u32 (qa : Int)) (.int .i64 qn) 24
  have h2 : coversB qa qn pa pn = false := by unfold coversB hasB; simp [hp]
  have hw : withinB pa (pn : Int) qa (qn : Int) = false := by unfold withinB; rw [h2, Bool.and_false]
  have C1 := Go.Lib.hid (covers_any pa (pn : Int) qa (qn : Int) hpa hqa)
  have C2 := Go.Lib.hid (refCovers_any pa (pn : Int) qa (qn : Int) hpa hqa)
  have C3 := Go.Lib.hid (h2 ▸ refCovers_any qa (qn : Int) pa (pn : Int) hqa hpa)
  have C4 := Go.Lib.hid (hw ▸ within_any pa (pn : Int) qa (qn : Int) hpa hqa)
  have C5 := Go.Lib.hid (has_any pa (pn : Int) a hpa ha)
  have C6 := Go.Lib.hid (has_one pa (pn : Int) a ▸ refCovers_any pa (pn : Int) a 32 hpa ha)
  have CP := Go.Lib.hid (hp ▸ refGood_any pa (pn : Int) hpa)
  have CM := Go.Lib.hid (common_bad pa pn qa qn hpa hqa (by simp [hp])) 
  have CCmp := Go.Lib.hid (cmp_bad pa pn qa qn hpa hqa (by simp [hp]))
  clear h2 hw
  go_enter Tryd.func4, Tryd.ntmps4
  go_wp2_with fail
  generalize (w.alloc (.cells #[.int .u32 (pa : Int), .int .i64 pn] 24)).alloc (.cells #[.int .u32 (qa : Int), .int .i64 qn] 24) = W at hb c0 c1 c2 c3 ⊢
  go_wp2_with (first | (go_at_call 12; with_reducible refine (CP.out _).mono ?_; rintro e w1 ⟨rfl, hb1⟩; replace c0 := keeps hb1 c0; replace c1 := keeps hb1 c1; replace c2 := keeps hb1 c2; replace c3 := keeps hb1 c3; replace hb := Below.tr hb hb1; clear hb1) | (go_at_call 16; with_reducible refine (CM.out _).mono ?_; rintro e w1 ⟨rfl, hb1⟩; replace c0 := keeps hb1 c0; replace c1 := keeps hb1 c1; replace c2 := keeps hb1 c2; replace c3 := keeps hb1 c3; replace hb := Below.tr hb hb1; clear hb1))
  obtain ⟨z0, z1⟩ := cells_two w1 (.int .u32 0) (.int .i64 0) 24
  have hz := below_new w1 (.cells #[.int .u32 0, .int .i64 0] 24)
  replace c0 := keeps hz c0
  replace c1 := keeps hz c1
  replace c2 := keeps hz c2
  replace c3 := keeps hz c3
  replace hb := Below.tr hb hz
  clear hz
  generalize w1.alloc (.cells #[.int .u32 0, .int .i64 0] 24) = W at hb c0 c1 c2 c3 z0 z1 ⊢
  have k0 := cell_regrown c0
  have k1 := cell_regrown c1
  have k2 := cell_regrown c2
  have k3 := cell_regrown c3
  have k4 := cell_regrown z0
  have k5 := cell_regrown z1
  have d1 := inRegion C1.out W
  have d2 := inRegion C2.out W
  have d3 := inRegion C3.out W
  have d4 := inRegion C4.out W
  have d5 := inRegion C5.out W
  have d6 := inRegion C6.out W
  generalize coversB pa (pn : Int) qa (qn : Int) = b1 at d1 d2
  generalize hasB pa (pn : Int) a = b5 at d5 d6
  refine wp_region_quiet_below (by kernel_rfl) (by kernel_rfl) ?_
  repeat (first | go_big_quiet_step (first | with_reducible exact d1 _ _ | with_reducible exact d2 _ _ | with_reducible exact d3 _ _ | with_reducible exact d4 _ _ | with_reducible exact d5 _ _ | with_reducible exact d6 _ _) | quiet_step (first | with_reducible exact d1 _ _ | with_reducible exact d2 _ _ | with_reducible exact d3 _ _ | with_reducible exact d4 _ _ | with_reducible exact d5 _ _ | with_reducible exact d6 _ _))
  refine wpQuiet_nil ?_
  intro _ hw'
  obtain ⟨⟨dq, osq⟩, hw''⟩ := hw'
  subst hw''
  clear d1 d2 d3 d4 d5 d6
  have hr := below_regrown W dq osq
  replace c0 := keeps hr c0
  replace c1 := keeps hr c1
  replace c2 := keeps hr c2
  replace c3 := keeps hr c3
  replace z0 := keeps hr z0
  replace z1 := keeps hr z1
  replace hb := Below.tr hb hr
  clear hr
  clear k0 k1 k2 k3 k4 k5
  generalize grow (redrawn W dq) osq = W at hb c0 c1 c2 c3 z0 z1 ⊢
  go_wp2_with (first | (go_at_call 21; refine (CCmp.out _).mono ?_; rintro e w1 ⟨rfl, hb1⟩; replace c0 := keeps hb1 c0; replace c1 := keeps hb1 c1; replace c2 := keeps hb1 c2; replace c3 := keeps hb1 c3; replace z0 := keeps hb1 z0; replace z1 := keeps hb1 z1; replace hb := Below.tr hb hb1; clear hb1) | (go_at_call 15; refine (lives_any _).mono ?_; rintro e w1 ⟨rfl, hb1⟩; replace c0 := keeps hb1 c0; replace c1 := keeps hb1 c1; replace c2 := keeps hb1 c2; replace c3 := keeps hb1 c3; replace z0 := keeps hb1 z0; replace z1 := keeps hb1 z1; replace hb := Below.tr hb hb1; clear hb1))
  go_ret
  exact ⟨rfl, hb⟩

set_option maxHeartbeats 1000000 in
theorem coversLaw_bad2 (pa : Nat) (pn : Int) (qa : Nat) (qn : Int) (a : Nat) (hpa : pa < 4294967296) (hqa : qa < 4294967296) (ha : a < 4294967296) (hp : goodB pa pn = true) (hq : goodB qa qn = false) (w : World) :
    Calls Tryd.prog 4 #[.agg #[.int .u32 pa, .int .i64 pn], .agg #[.int .u32 qa, .int .i64 qn], .int .u32 a] w fun e w' => e = .returned (.bool true) ∧ Below w.heap.size w w' := by
  have hb := below_new2 w (.cells #[.int .u32 (pa : Int), .int .i64 pn] 24) (.cells #[.int .u32 (qa : Int), .int .i64 qn] 24)
  obtain ⟨c0, c1, c2, c3⟩ := cells_four w (.int .u32 (pa : Int)) (.int .i64 pn) (.int .u32 (qa : Int)) (.int .i64 qn) 24
  have h2 : coversB qa qn pa pn = false := by unfold coversB hasB; simp [hp, hq]
  have hw : withinB pa (pn : Int) qa (qn : Int) = false := by unfold withinB; rw [h2, Bool.and_false]
  have C1 := Go.Lib.hid (covers_any pa (pn : Int) qa (qn : Int) hpa hqa)
  have C2 := Go.Lib.hid (refCovers_any pa (pn : Int) qa (qn : Int) hpa hqa)
  have C3 := Go.Lib.hid (h2 ▸ refCovers_any qa (qn : Int) pa (pn : Int) hqa hpa)
  have C4 := Go.Lib.hid (hw ▸ within_any pa (pn : Int) qa (qn : Int) hpa hqa)
  have C5 := Go.Lib.hid (has_any pa (pn : Int) a hpa ha)
  have C6 := Go.Lib.hid (has_one pa (pn : Int) a ▸ refCovers_any pa (pn : Int) a 32 hpa ha)
  have CP := Go.Lib.hid (hp ▸ refGood_any pa (pn : Int) hpa)
  have CM := Go.Lib.hid (common_bad pa pn qa qn hpa hqa (by simp [hp, hq])) 
  have CCmp := Go.Lib.hid (cmp_bad pa pn qa qn hpa hqa (by simp [hp, hq]))
  have CQ := Go.Lib.hid (hq ▸ refGood_any qa qn hqa)
  clear h2 hw
  go_enter Tryd.func4, Tryd.ntmps4
  go_wp2_with fail
  generalize (w.alloc (.cells #[.int .u32 (pa : Int), .int .i64 pn] 24)).alloc (.cells #[.int .u32 (qa : Int), .int .i64 qn] 24) = W at hb c0 c1 c2 c3 ⊢
  go_wp2_with (first | (go_at_call 12; with_reducible refine (CP.out _).mono ?_; rintro e w1 ⟨rfl, hb1⟩; replace c0 := keeps hb1 c0; replace c1 := keeps hb1 c1; replace c2 := keeps hb1 c2; replace c3 := keeps hb1 c3; replace hb := Below.tr hb hb1; clear hb1) | (go_at_call 12; with_reducible refine (CQ.out _).mono ?_; rintro e w1 ⟨rfl, hb1⟩; replace c0 := keeps hb1 c0; replace c1 := keeps hb1 c1; replace c2 := keeps hb1 c2; replace c3 := keeps hb1 c3; replace hb := Below.tr hb hb1; clear hb1) | (go_at_call 16; with_reducible refine (CM.out _).mono ?_; rintro e w1 ⟨rfl, hb1⟩; replace c0 := keeps hb1 c0; replace c1 := keeps hb1 c1; replace c2 := keeps hb1 c2; replace c3 := keeps hb1 c3; replace hb := Below.tr hb hb1; clear hb1))
  obtain ⟨z0, z1⟩ := cells_two w1 (.int .u32 0) (.int .i64 0) 24
  have hz := below_new w1 (.cells #[.int .u32 0, .int .i64 0] 24)
  replace c0 := keeps hz c0
  replace c1 := keeps hz c1
  replace c2 := keeps hz c2
  replace c3 := keeps hz c3
  replace hb := Below.tr hb hz
  clear hz
  generalize w1.alloc (.cells #[.int .u32 0, .int .i64 0] 24) = W at hb c0 c1 c2 c3 z0 z1 ⊢
  have k0 := cell_regrown c0
  have k1 := cell_regrown c1
  have k2 := cell_regrown c2
  have k3 := cell_regrown c3
  have k4 := cell_regrown z0
  have k5 := cell_regrown z1
  have d1 := inRegion C1.out W
  have d2 := inRegion C2.out W
  have d3 := inRegion C3.out W
  have d4 := inRegion C4.out W
  have d5 := inRegion C5.out W
  have d6 := inRegion C6.out W
  generalize coversB pa (pn : Int) qa (qn : Int) = b1 at d1 d2
  generalize hasB pa (pn : Int) a = b5 at d5 d6
  refine wp_region_quiet_below (by kernel_rfl) (by kernel_rfl) ?_
  repeat (first | go_big_quiet_step (first | with_reducible exact d1 _ _ | with_reducible exact d2 _ _ | with_reducible exact d3 _ _ | with_reducible exact d4 _ _ | with_reducible exact d5 _ _ | with_reducible exact d6 _ _) | quiet_step (first | with_reducible exact d1 _ _ | with_reducible exact d2 _ _ | with_reducible exact d3 _ _ | with_reducible exact d4 _ _ | with_reducible exact d5 _ _ | with_reducible exact d6 _ _))
  refine wpQuiet_nil ?_
  intro _ hw'
  obtain ⟨⟨dq, osq⟩, hw''⟩ := hw'
  subst hw''
  clear d1 d2 d3 d4 d5 d6
  have hr := below_regrown W dq osq
  replace c0 := keeps hr c0
  replace c1 := keeps hr c1
  replace c2 := keeps hr c2
  replace c3 := keeps hr c3
  replace z0 := keeps hr z0
  replace z1 := keeps hr z1
  replace hb := Below.tr hb hr
  clear hr
  clear k0 k1 k2 k3 k4 k5
  generalize grow (redrawn W dq) osq = W at hb c0 c1 c2 c3 z0 z1 ⊢
  go_wp2_with (first | (go_at_call 21; refine (CCmp.out _).mono ?_; rintro e w1 ⟨rfl, hb1⟩; replace c0 := keeps hb1 c0; replace c1 := keeps hb1 c1; replace c2 := keeps hb1 c2; replace c3 := keeps hb1 c3; replace z0 := keeps hb1 z0; replace z1 := keeps hb1 z1; replace hb := Below.tr hb hb1; clear hb1) | (go_at_call 15; refine (lives_any _).mono ?_; rintro e w1 ⟨rfl, hb1⟩; replace c0 := keeps hb1 c0; replace c1 := keeps hb1 c1; replace c2 := keeps hb1 c2; replace c3 := keeps hb1 c3; replace z0 := keeps hb1 z0; replace z1 := keeps hb1 z1; replace hb := Below.tr hb hb1; clear hb1))
  go_ret
  exact ⟨rfl, hb⟩

set_option maxHeartbeats 1000000 in
theorem coversLaw_away (pa : Nat) (k : Nat) (qa : Nat) (l : Nat) (a : Nat) (hpa : pa < 4294967296) (hqa : qa < 4294967296) (ha : a < 4294967296) (hp : goodB pa (k : Int) = true) (hq : goodB qa (l : Int) = true) (h2 : coversB qa (l : Int) pa (k : Int) = false) (w : World) :
    Calls Tryd.prog 4 #[.agg #[.int .u32 pa, .int .i64 k], .agg #[.int .u32 qa, .int .i64 l], .int .u32 a] w fun e w' => e = .returned (.bool true) ∧ Below w.heap.size w w' := by
  have hb := below_new2 w (.cells #[.int .u32 (pa : Int), .int .i64 k] 24) (.cells #[.int .u32 (qa : Int), .int .i64 l] 24)
  obtain ⟨c0, c1, c2, c3⟩ := cells_four w (.int .u32 (pa : Int)) (.int .i64 k) (.int .u32 (qa : Int)) (.int .i64 l) 24
  have hw : withinB pa (k : Int) qa (l : Int) = false := by unfold withinB; rw [h2, Bool.and_false]
  have C1 := Go.Lib.hid (covers_any pa (k : Int) qa (l : Int) hpa hqa)
  have C2 := Go.Lib.hid (refCovers_any pa (k : Int) qa (l : Int) hpa hqa)
  have C3 := Go.Lib.hid (h2 ▸ refCovers_any qa (l : Int) pa (k : Int) hqa hpa)
  have C4 := Go.Lib.hid (hw ▸ within_any pa (k : Int) qa (l : Int) hpa hqa)
  have C5 := Go.Lib.hid (has_any pa (k : Int) a hpa ha)
  have C6 := Go.Lib.hid (has_one pa (k : Int) a ▸ refCovers_any pa (k : Int) a 32 hpa ha)
  have CP := Go.Lib.hid (hp ▸ refGood_any pa (k : Int) hpa)
  have CQ := Go.Lib.hid (hq ▸ refGood_any qa (l : Int) hqa)
  have lp := goodB_len hp
  have lq := goodB_len hq
  have hm := com_parts pa k qa l hpa hqa
  have hlast := com_last pa k qa l hpa hqa (by omega)
  have CM := Go.Lib.hid (common_good pa k qa l hpa hqa (by omega) hp hq)
  have CCmp := Go.Lib.hid (cmp_good pa (k : Int) qa (l : Int) hpa hqa hp hq)
  have CRCmp := Go.Lib.hid (refCmp_any pa (k : Int) qa (l : Int))
  obtain ⟨m, hmm⟩ : ∃ m, m = comN pa k qa l := ⟨_, rfl⟩
  rw [← hmm] at hm hlast CM
  clear hmm
  have hcl : cutN pa m < 4294967296 := Nat.lt_of_le_of_lt (cutN_le pa m) hpa
  have hgc : goodB (cutN pa m) (m : Int) = true := by rw [goodB_in hm.2.2.1]; exact decide_eq_true (by rw [cut_less (Nat.le_refl _) hm.2.2.1])
  have hc1 : coversB (cutN pa m) (m : Int) pa (k : Int) = true := coversB_mk hgc hp (by omega) rfl
  have hc2 : coversB (cutN pa m) (m : Int) qa (l : Int) = true := coversB_mk hgc hq (by omega) (by rw [hm.2.2.2]; rfl)
  have C7 := Go.Lib.hid (hc1 ▸ refCovers_any (cutN pa m) (m : Int) pa (k : Int) hcl hpa)
  have C8 := Go.Lib.hid (hc2 ▸ refCovers_any (cutN pa m) (m : Int) qa (l : Int) hcl hqa)
  have hm32 := hm.2.2.1
  clear hm hgc hc1 hc2 hcl
  clear h2 hw
  go_enter Tryd.func4, Tryd.ntmps4
  go_wp2_with fail
  generalize (w.alloc (.cells #[.int .u32 (pa : Int), .int .i64 k] 24)).alloc (.cells #[.int .u32 (qa : Int), .int .i64 l] 24) = W at hb c0 c1 c2 c3 ⊢
  go_wp2_with (first | (go_at_call 12; with_reducible refine (CP.out _).mono ?_; rintro e w1 ⟨rfl, hb1⟩; replace c0 := keeps hb1 c0; replace c1 := keeps hb1 c1; replace c2 := keeps hb1 c2; replace c3 := keeps hb1 c3; replace hb := Below.tr hb hb1; clear hb1) | (go_at_call 12; with_reducible refine (CQ.out _).mono ?_; rintro e w1 ⟨rfl, hb1⟩; replace c0 := keeps hb1 c0; replace c1 := keeps hb1 c1; replace c2 := keeps hb1 c2; replace c3 := keeps hb1 c3; replace hb := Below.tr hb hb1; clear hb1) | (go_at_call 16; with_reducible refine (CM.out _).mono ?_; rintro e w1 ⟨rfl, hb1⟩; replace c0 := keeps hb1 c0; replace c1 := keeps hb1 c1; replace c2 := keeps hb1 c2; replace c3 := keeps hb1 c3; replace hb := Below.tr hb hb1; clear hb1))
  obtain ⟨z0, z1⟩ := cells_two w1 (.int .u32 (cutN pa m : Int)) (.int .i64 m) 24
  have hz := below_new w1 (.cells #[.int .u32 (cutN pa m : Int), .int .i64 m] 24)
  replace c0 := keeps hz c0
  replace c1 := keeps hz c1
  replace c2 := keeps hz c2
  replace c3 := keeps hz c3
  replace hb := Below.tr hb hz
  clear hz
  generalize w1.alloc (.cells #[.int .u32 (cutN pa m : Int), .int .i64 m] 24) = W at hb c0 c1 c2 c3 z0 z1 ⊢
  have k0 := cell_regrown c0
  have k1 := cell_regrown c1
  have k2 := cell_regrown c2
  have k3 := cell_regrown c3
  have k4 := cell_regrown z0
  have k5 := cell_regrown z1
  have d1 := inRegion C1.out W
  have d2 := inRegion C2.out W
  have d3 := inRegion C3.out W
  have d4 := inRegion C4.out W
  have d5 := inRegion C5.out W
  have d6 := inRegion C6.out W
  generalize coversB pa (k : Int) qa (l : Int) = b1 at d1 d2
  generalize hasB pa (k : Int) a = b5 at d5 d6
  refine wp_region_quiet_below (by kernel_rfl) (by kernel_rfl) ?_
  repeat (first | go_big_quiet_step (first | with_reducible exact d1 _ _ | with_reducible exact d2 _ _ | with_reducible exact d3 _ _ | with_reducible exact d4 _ _ | with_reducible exact d5 _ _ | with_reducible exact d6 _ _) | quiet_step (first | with_reducible exact d1 _ _ | with_reducible exact d2 _ _ | with_reducible exact d3 _ _ | with_reducible exact d4 _ _ | with_reducible exact d5 _ _ | with_reducible exact d6 _ _))
  refine wpQuiet_nil ?_
  intro _ hw'
  obtain ⟨⟨dq, osq⟩, hw''⟩ := hw'
  subst hw''
  clear d1 d2 d3 d4 d5 d6
  have hr := below_regrown W dq osq
  replace c0 := keeps hr c0
  replace c1 := keeps hr c1
  replace c2 := keeps hr c2
  replace c3 := keeps hr c3
  replace z0 := keeps hr z0
  replace z1 := keeps hr z1
  replace hb := Below.tr hb hr
  clear hr
  clear k0 k1 k2 k3 k4 k5
  generalize grow (redrawn W dq) osq = W at hb c0 c1 c2 c3 z0 z1 ⊢
  go_wp2_with fail
  have k0 := cell_regrown c0
  have k1 := cell_regrown c1
  have k2 := cell_regrown c2
  have k3 := cell_regrown c3
  have k4 := cell_regrown z0
  have k5 := cell_regrown z1
  have d1 := inRegion C7.out W
  have d2 := inRegion C8.out W
  have d3 := inRegion CCmp.out W
  have d4 := inRegion CRCmp.out W
  generalize cmpP pa (k : Int) qa (l : Int) = b9 at d3 d4
  refine wp_region_quiet_below (by kernel_rfl) (by kernel_rfl) ?_
  repeat (first | go_big_quiet_step (first | with_reducible exact d1 _ _ | with_reducible exact d2 _ _ | with_reducible exact d3 _ _ | with_reducible exact d4 _ _) | quiet_step (first | with_reducible exact d1 _ _ | with_reducible exact d2 _ _ | with_reducible exact d3 _ _ | with_reducible exact d4 _ _))
  refine wpQuiet_nil ?_
  intro _ hw'
  obtain ⟨⟨dq, osq⟩, hw''⟩ := hw'
  subst hw''
  clear d1 d2 d3 d4
  have hr := below_regrown W dq osq
  replace c0 := keeps hr c0
  replace c1 := keeps hr c1
  replace c2 := keeps hr c2
  replace c3 := keeps hr c3
  replace z0 := keeps hr z0
  replace z1 := keeps hr z1
  replace hb := Below.tr hb hr
  clear hr
  clear k0 k1 k2 k3 k4 k5
  generalize grow (redrawn W dq) osq = W at hb c0 c1 c2 c3 z0 z1 ⊢
  go_wp2_with fail
  have k0 := cell_regrown c0
  have k1 := cell_regrown c1
  have k2 := cell_regrown c2
  have k3 := cell_regrown c3
  have k4 := cell_regrown z0
  have k5 := cell_regrown z1
  have d1 : m < 32 → _ := fun h => inRegion (same_below (refBit_in pa m hpa h)) W
  have d2 : m < 32 → _ := fun h => inRegion (same_below (refBit_in qa m hqa h)) W
  by_cases g1 : m < k
  · by_cases g2 : m < l
    · have g1' : (m : Int) < (k : Int) := by omega
      have g2' : (m : Int) < (l : Int) := by omega
      have g3 : ((bitN pa m : Int) == (bitN qa m : Int)) = false := by
        have h := hlast g1 g2
        simp; omega
      replace d1 := d1 (by omega)
      replace d2 := d2 (by omega)
      clear hlast
      refine wp_region_quiet_below (by kernel_rfl) (by kernel_rfl) ?_
      repeat (first | go_big_quiet_step (first | with_reducible exact d1 _ _ | with_reducible exact d2 _ _) | quiet_step (first | with_reducible exact d1 _ _ | with_reducible exact d2 _ _))
      refine wpQuiet_nil ?_
      intro _ hw'
      obtain ⟨⟨dq, osq⟩, hw''⟩ := hw'
      subst hw''
      clear d1 d2
      have hr := below_regrown W dq osq
      replace c0 := keeps hr c0
      replace c1 := keeps hr c1
      replace c2 := keeps hr c2
      replace c3 := keeps hr c3
      replace z0 := keeps hr z0
      replace z1 := keeps hr z1
      replace hb := Below.tr hb hr
      clear hr
      clear k0 k1 k2 k3 k4 k5
      generalize grow (redrawn W dq) osq = W at hb c0 c1 c2 c3 z0 z1 ⊢
      go_wp2_with (go_at_call 15; refine (lives_any _).mono ?_; rintro e w1 ⟨rfl, hb1⟩; replace c0 := keeps hb1 c0; replace c1 := keeps hb1 c1; replace c2 := keeps hb1 c2; replace c3 := keeps hb1 c3; replace z0 := keeps hb1 z0; replace z1 := keeps hb1 z1; replace hb := Below.tr hb hb1; clear hb1)
      go_ret
      exact ⟨rfl, hb⟩
    · have g1' : (m : Int) < (k : Int) := by omega
      have g2' : decide ((m : Int) < (l : Int)) = false := decide_eq_false (by omega)
      have g2'' : ¬ (m : Int) < (l : Int) := by omega
      clear hlast d1 d2
      refine wp_region_quiet_below (by kernel_rfl) (by kernel_rfl) ?_
      repeat (first | go_big_quiet_step (first | fail) | quiet_step (first | fail))
      refine wpQuiet_nil ?_
      intro _ hw'
      obtain ⟨⟨dq, osq⟩, hw''⟩ := hw'
      subst hw''
      have hr := below_regrown W dq osq
      replace c0 := keeps hr c0
      replace c1 := keeps hr c1
      replace c2 := keeps hr c2
      replace c3 := keeps hr c3
      replace z0 := keeps hr z0
      replace z1 := keeps hr z1
      replace hb := Below.tr hb hr
      clear hr
      clear k0 k1 k2 k3 k4 k5
      generalize grow (redrawn W dq) osq = W at hb c0 c1 c2 c3 z0 z1 ⊢
      go_wp2_with (go_at_call 15; refine (lives_any _).mono ?_; rintro e w1 ⟨rfl, hb1⟩; replace c0 := keeps hb1 c0; replace c1 := keeps hb1 c1; replace c2 := keeps hb1 c2; replace c3 := keeps hb1 c3; replace z0 := keeps hb1 z0; replace z1 := keeps hb1 z1; replace hb := Below.tr hb hb1; clear hb1)
      go_ret
      exact ⟨rfl, hb⟩
  · have g1' : decide ((m : Int) < (k : Int)) = false := decide_eq_false (by omega)
    have g1'' : ¬ (m : Int) < (k : Int) := by omega
    clear hlast d1 d2
    refine wp_region_quiet_below (by kernel_rfl) (by kernel_rfl) ?_
    repeat (first | go_big_quiet_step (first | fail) | quiet_step (first | fail))
    refine wpQuiet_nil ?_
    intro _ hw'
    obtain ⟨⟨dq, osq⟩, hw''⟩ := hw'
    subst hw''
    have hr := below_regrown W dq osq
    replace c0 := keeps hr c0
    replace c1 := keeps hr c1
    replace c2 := keeps hr c2
    replace c3 := keeps hr c3
    replace z0 := keeps hr z0
    replace z1 := keeps hr z1
    replace hb := Below.tr hb hr
    clear hr
    clear k0 k1 k2 k3 k4 k5
    generalize grow (redrawn W dq) osq = W at hb c0 c1 c2 c3 z0 z1 ⊢
    go_wp2_with (go_at_call 15; refine (lives_any _).mono ?_; rintro e w1 ⟨rfl, hb1⟩; replace c0 := keeps hb1 c0; replace c1 := keeps hb1 c1; replace c2 := keeps hb1 c2; replace c3 := keeps hb1 c3; replace z0 := keeps hb1 z0; replace z1 := keeps hb1 z1; replace hb := Below.tr hb hb1; clear hb1)
    go_ret
    exact ⟨rfl, hb⟩

set_option maxHeartbeats 1000000 in
theorem coversLaw_same (pa : Nat) (k : Nat) (a : Nat) (hpa : pa < 4294967296) (ha : a < 4294967296) (hp : goodB pa (k : Int) = true) (hq : goodB pa (k : Int) = true) (h2 : coversB pa (k : Int) pa (k : Int) = true) (w : World) :
    Calls Tryd.prog 4 #[.agg #[.int .u32 pa, .int .i64 k], .agg #[.int .u32 pa, .int .i64 k], .int .u32 a] w fun e w' => e = .returned (.bool true) ∧ Below w.heap.size w w' := by
  have hb := below_new2 w (.cells #[.int .u32 (pa : Int), .int .i64 k] 24) (.cells #[.int .u32 (pa : Int), .int .i64 k] 24)
  obtain ⟨c0, c1, c2, c3⟩ := cells_four w (.int .u32 (pa : Int)) (.int .i64 k) (.int .u32 (pa : Int)) (.int .i64 k) 24
  have hw : withinB pa (k : Int) pa (k : Int) = false := by unfold withinB; simp
  have C1 := Go.Lib.hid (covers_any pa (k : Int) pa (k : Int) hpa hpa)
  have C2 := Go.Lib.hid (refCovers_any pa (k : Int) pa (k : Int) hpa hpa)
  have C3 := Go.Lib.hid (h2 ▸ refCovers_any pa (k : Int) pa (k : Int) hpa hpa)
  have C4 := Go.Lib.hid (hw ▸ within_any pa (k : Int) pa (k : Int) hpa hpa)
  have C5 := Go.Lib.hid (has_any pa (k : Int) a hpa ha)
  have C6 := Go.Lib.hid (has_one pa (k : Int) a ▸ refCovers_any pa (k : Int) a 32 hpa ha)
  have CP := Go.Lib.hid (hp ▸ refGood_any pa (k : Int) hpa)
  have CQ := Go.Lib.hid (hq ▸ refGood_any pa (k : Int) hpa)
  have lp := goodB_len hp
  have lq := goodB_len hq
  have hm := com_parts pa k pa k hpa hpa
  have hlast := com_last pa k pa k hpa hpa (by omega)
  have CM := Go.Lib.hid (common_good pa k pa k hpa hpa (by omega) hp hq)
  have CCmp := Go.Lib.hid (cmp_good pa (k : Int) pa (k : Int) hpa hpa hp hq)
  have CRCmp := Go.Lib.hid (refCmp_any pa (k : Int) pa (k : Int))
  obtain ⟨m, hmm⟩ : ∃ m, m = comN pa k pa k := ⟨_, rfl⟩
  rw [← hmm] at hm hlast CM
  clear hmm
  have hcl : cutN pa m < 4294967296 := Nat.lt_of_le_of_lt (cutN_le pa m) hpa
  have hgc : goodB (cutN pa m) (m : Int) = true := by rw [goodB_in hm.2.2.1]; exact decide_eq_true (by rw [cut_less (Nat.le_refl _) hm.2.2.1])
  have hc1 : coversB (cutN pa m) (m : Int) pa (k : Int) = true := coversB_mk hgc hp (by omega) rfl
  have hc2 : coversB (cutN pa m) (m : Int) pa (k : Int) = true := coversB_mk hgc hq (by omega) (by rw [hm.2.2.2]; rfl)
  have C7 := Go.Lib.hid (hc1 ▸ refCovers_any (cutN pa m) (m : Int) pa (k : Int) hcl hpa)
  have C8 := Go.Lib.hid (hc2 ▸ refCovers_any (cutN pa m) (m : Int) pa (k : Int) hcl hpa)
  have hm32 := hm.2.2.1
  clear hm hgc hc1 hc2 hcl
  have HS := Go.Lib.hid h2
  clear h2 hw
  go_enter Tryd.func4, Tryd.ntmps4
  go_wp2_with fail
  generalize (w.alloc (.cells #[.int .u32 (pa : Int), .int .i64 k] 24)).alloc (.cells #[.int .u32 (pa : Int), .int .i64 k] 24) = W at hb c0 c1 c2 c3 ⊢
  go_wp2_with (first | (go_at_call 12; with_reducible refine (CP.out _).mono ?_; rintro e w1 ⟨rfl, hb1⟩; replace c0 := keeps hb1 c0; replace c1 := keeps hb1 c1; replace c2 := keeps hb1 c2; replace c3 := keeps hb1 c3; replace hb := Below.tr hb hb1; clear hb1) | (go_at_call 12; with_reducible refine (CQ.out _).mono ?_; rintro e w1 ⟨rfl, hb1⟩; replace c0 := keeps hb1 c0; replace c1 := keeps hb1 c1; replace c2 := keeps hb1 c2; replace c3 := keeps hb1 c3; replace hb := Below.tr hb hb1; clear hb1) | (go_at_call 16; with_reducible refine (CM.out _).mono ?_; rintro e w1 ⟨rfl, hb1⟩; replace c0 := keeps hb1 c0; replace c1 := keeps hb1 c1; replace c2 := keeps hb1 c2; replace c3 := keeps hb1 c3; replace hb := Below.tr hb hb1; clear hb1))
  obtain ⟨z0, z1⟩ := cells_two w1 (.int .u32 (cutN pa m : Int)) (.int .i64 m) 24
  have hz := below_new w1 (.cells #[.int .u32 (cutN pa m : Int), .int .i64 m] 24)
  replace c0 := keeps hz c0
  replace c1 := keeps hz c1
  replace c2 := keeps hz c2
  replace c3 := keeps hz c3
  replace hb := Below.tr hb hz
  clear hz
  generalize w1.alloc (.cells #[.int .u32 (cutN pa m : Int), .int .i64 m] 24) = W at hb c0 c1 c2 c3 z0 z1 ⊢
  have k0 := cell_regrown c0
  have k1 := cell_regrown c1
  have k2 := cell_regrown c2
  have k3 := cell_regrown c3
  have k4 := cell_regrown z0
  have k5 := cell_regrown z1
  have d1 := inRegion C1.out W
  have d2 := inRegion C2.out W
  have d3 := inRegion C3.out W
  have d4 := inRegion C4.out W
  have d5 := inRegion C5.out W
  have d6 := inRegion C6.out W
  rw [HS.out] at d1 d2
  generalize hasB pa (k : Int) a = b5 at d5 d6
  refine wp_region_quiet_below (by kernel_rfl) (by kernel_rfl) ?_
  repeat (first | go_big_quiet_step (first | with_reducible exact d1 _ _ | with_reducible exact d2 _ _ | with_reducible exact d3 _ _ | with_reducible exact d4 _ _ | with_reducible exact d5 _ _ | with_reducible exact d6 _ _) | quiet_step (first | with_reducible exact d1 _ _ | with_reducible exact d2 _ _ | with_reducible exact d3 _ _ | with_reducible exact d4 _ _ | with_reducible exact d5 _ _ | with_reducible exact d6 _ _))
  refine wpQuiet_nil ?_
  intro _ hw'
  obtain ⟨⟨dq, osq⟩, hw''⟩ := hw'
  subst hw''
  clear d1 d2 d3 d4 d5 d6
  have hr := below_regrown W dq osq
  replace c0 := keeps hr c0
  replace c1 := keeps hr c1
  replace c2 := keeps hr c2
  replace c3 := keeps hr c3
  replace z0 := keeps hr z0
  replace z1 := keeps hr z1
  replace hb := Below.tr hb hr
  clear hr
  clear k0 k1 k2 k3 k4 k5
  generalize grow (redrawn W dq) osq = W at hb c0 c1 c2 c3 z0 z1 ⊢
  go_wp2_with fail
  have k0 := cell_regrown c0
  have k1 := cell_regrown c1
  have k2 := cell_regrown c2
  have k3 := cell_regrown c3
  have k4 := cell_regrown z0
  have k5 := cell_regrown z1
  have d1 := inRegion C7.out W
  have d2 := inRegion C8.out W
  have d3 := inRegion CCmp.out W
  have d4 := inRegion CRCmp.out W
  generalize cmpP pa (k : Int) pa (k : Int) = b9 at d3 d4
  refine wp_region_quiet_below (by kernel_rfl) (by kernel_rfl) ?_
  repeat (first | go_big_quiet_step (first | with_reducible exact d1 _ _ | with_reducible exact d2 _ _ | with_reducible exact d3 _ _ | with_reducible exact d4 _ _) | quiet_step (first | with_reducible exact d1 _ _ | with_reducible exact d2 _ _ | with_reducible exact d3 _ _ | with_reducible exact d4 _ _))
  refine wpQuiet_nil ?_
  intro _ hw'
  obtain ⟨⟨dq, osq⟩, hw''⟩ := hw'
  subst hw''
  clear d1 d2 d3 d4
  have hr := below_regrown W dq osq
  replace c0 := keeps hr c0
  replace c1 := keeps hr c1
  replace c2 := keeps hr c2
  replace c3 := keeps hr c3
  replace z0 := keeps hr z0
  replace z1 := keeps hr z1
  replace hb := Below.tr hb hr
  clear hr
  clear k0 k1 k2 k3 k4 k5
  generalize grow (redrawn W dq) osq = W at hb c0 c1 c2 c3 z0 z1 ⊢
  go_wp2_with fail
  have k0 := cell_regrown c0
  have k1 := cell_regrown c1
  have k2 := cell_regrown c2
  have k3 := cell_regrown c3
  have k4 := cell_regrown z0
  have k5 := cell_regrown z1
  have d1 : m < 32 → _ := fun h => inRegion (same_below (refBit_in pa m hpa h)) W
  have d2 : m < 32 → _ := fun h => inRegion (same_below (refBit_in pa m hpa h)) W
  by_cases g1 : m < k
  · by_cases g2 : m < k
    · exact absurd rfl (hlast g1 g2)
    · exact absurd g1 g2
  · have g1' : decide ((m : Int) < (k : Int)) = false := decide_eq_false (by omega)
    have g1'' : ¬ (m : Int) < (k : Int) := by omega
    clear hlast d1 d2
    refine wp_region_quiet_below (by kernel_rfl) (by kernel_rfl) ?_
    repeat (first | go_big_quiet_step (first | fail) | quiet_step (first | fail))
    refine wpQuiet_nil ?_
    intro _ hw'
    obtain ⟨⟨dq, osq⟩, hw''⟩ := hw'
    subst hw''
    have hr := below_regrown W dq osq
    replace c0 := keeps hr c0
    replace c1 := keeps hr c1
    replace c2 := keeps hr c2
    replace c3 := keeps hr c3
    replace z0 := keeps hr z0
    replace z1 := keeps hr z1
    replace hb := Below.tr hb hr
    clear hr
    clear k0 k1 k2 k3 k4 k5
    generalize grow (redrawn W dq) osq = W at hb c0 c1 c2 c3 z0 z1 ⊢
    go_wp2_with (go_at_call 15; refine (lives_any _).mono ?_; rintro e w1 ⟨rfl, hb1⟩; replace c0 := keeps hb1 c0; replace c1 := keeps hb1 c1; replace c2 := keeps hb1 c2; replace c3 := keeps hb1 c3; replace z0 := keeps hb1 z0; replace z1 := keeps hb1 z1; replace hb := Below.tr hb hb1; clear hb1)
    go_ret
    exact ⟨rfl, hb⟩

set_option maxHeartbeats 1000000 in
theorem coversLaw_len (pa : Nat) (k : Nat) (l : Nat) (a : Nat) (hpa : pa < 4294967296) (ha : a < 4294967296) (hp : goodB pa (k : Int) = true) (hq : goodB pa (l : Int) = true) (hne : ¬ k = l) (h2 : coversB pa (l : Int) pa (k : Int) = true) (w : World) :
    Calls Tryd.prog 4 #[.agg #[.int .u32 pa, .int .i64 k], .agg #[.int .u32 pa, .int .i64 l], .int .u32 a] w fun e w' => e = .returned (.bool true) ∧ Below w.heap.size w w' := by
  have hb := below_new2 w (.cells #[.int .u32 (pa : Int), .int .i64 k] 24) (.cells #[.int .u32 (pa : Int), .int .i64 l] 24)
  obtain ⟨c0, c1, c2, c3⟩ := cells_four w (.int .u32 (pa : Int)) (.int .i64 k) (.int .u32 (pa : Int)) (.int .i64 l) 24
  have hneI : ¬ ((k : Int) = (l : Int)) := by omega
  have hw : withinB pa (k : Int) pa (l : Int) = true := by unfold withinB; rw [h2, decide_eq_false (fun h => hneI h.2)]; rfl
  have C1 := Go.Lib.hid (covers_any pa (k : Int) pa (l : Int) hpa hpa)
  have C2 := Go.Lib.hid (refCovers_any pa (k : Int) pa (l : Int) hpa hpa)
  have C3 := Go.Lib.hid (h2 ▸ refCovers_any pa (l : Int) pa (k : Int) hpa hpa)
  have C4 := Go.Lib.hid (hw ▸ within_any pa (k : Int) pa (l : Int) hpa hpa)
  have C5 := Go.Lib.hid (has_any pa (k : Int) a hpa ha)
  have C6 := Go.Lib.hid (has_one pa (k : Int) a ▸ refCovers_any pa (k : Int) a 32 hpa ha)
  have CP := Go.Lib.hid (hp ▸ refGood_any pa (k : Int) hpa)
  have CQ := Go.Lib.hid (hq ▸ refGood_any pa (l : Int) hpa)
  have lp := goodB_len hp
  have lq := goodB_len hq
  have hm := com_parts pa k pa l hpa hpa
  have hlast := com_last pa k pa l hpa hpa (by omega)
  have CM := Go.Lib.hid (common_good pa k pa l hpa hpa (by omega) hp hq)
  have CCmp := Go.Lib.hid (cmp_good pa (k : Int) pa (l : Int) hpa hpa hp hq)
  have CRCmp := Go.Lib.hid (refCmp_any pa (k : Int) pa (l : Int))
  obtain ⟨m, hmm⟩ : ∃ m, m = comN pa k pa l := ⟨_, rfl⟩
  rw [← hmm] at hm hlast CM
  clear hmm
  have hcl : cutN pa m < 4294967296 := Nat.lt_of_le_of_lt (cutN_le pa m) hpa
  have hgc : goodB (cutN pa m) (m : Int) = true := by rw [goodB_in hm.2.2.1]; exact decide_eq_true (by rw [cut_less (Nat.le_refl _) hm.2.2.1])
  have hc1 : coversB (cutN pa m) (m : Int) pa (k : Int) = true := coversB_mk hgc hp (by omega) rfl
  have hc2 : coversB (cutN pa m) (m : Int) pa (l : Int) = true := coversB_mk hgc hq (by omega) (by rw [hm.2.2.2]; rfl)
  have C7 := Go.Lib.hid (hc1 ▸ refCovers_any (cutN pa m) (m : Int) pa (k : Int) hcl hpa)
  have C8 := Go.Lib.hid (hc2 ▸ refCovers_any (cutN pa m) (m : Int) pa (l : Int) hcl hpa)
  have hm32 := hm.2.2.1
  clear hm hgc hc1 hc2 hcl
  clear h2 hw
  go_enter Tryd.func4, Tryd.ntmps4
  go_wp2_with fail
  generalize (w.alloc (.cells #[.int .u32 (pa : Int), .int .i64 k] 24)).alloc (.cells #[.int .u32 (pa : Int), .int .i64 l] 24) = W at hb c0 c1 c2 c3 ⊢
  go_wp2_with (first | (go_at_call 12; with_reducible refine (CP.out _).mono ?_; rintro e w1 ⟨rfl, hb1⟩; replace c0 := keeps hb1 c0; replace c1 := keeps hb1 c1; replace c2 := keeps hb1 c2; replace c3 := keeps hb1 c3; replace hb := Below.tr hb hb1; clear hb1) | (go_at_call 12; with_reducible refine (CQ.out _).mono ?_; rintro e w1 ⟨rfl, hb1⟩; replace c0 := keeps hb1 c0; replace c1 := keeps hb1 c1; replace c2 := keeps hb1 c2; replace c3 := keeps hb1 c3; replace hb := Below.tr hb hb1; clear hb1) | (go_at_call 16; with_reducible refine (CM.out _).mono ?_; rintro e w1 ⟨rfl, hb1⟩; replace c0 := keeps hb1 c0; replace c1 := keeps hb1 c1; replace c2 := keeps hb1 c2; replace c3 := keeps hb1 c3; replace hb := Below.tr hb hb1; clear hb1))
  obtain ⟨z0, z1⟩ := cells_two w1 (.int .u32 (cutN pa m : Int)) (.int .i64 m) 24
  have hz := below_new w1 (.cells #[.int .u32 (cutN pa m : Int), .int .i64 m] 24)
  replace c0 := keeps hz c0
  replace c1 := keeps hz c1
  replace c2 := keeps hz c2
  replace c3 := keeps hz c3
  replace hb := Below.tr hb hz
  clear hz
  generalize w1.alloc (.cells #[.int .u32 (cutN pa m : Int), .int .i64 m] 24) = W at hb c0 c1 c2 c3 z0 z1 ⊢
  have k0 := cell_regrown c0
  have k1 := cell_regrown c1
  have k2 := cell_regrown c2
  have k3 := cell_regrown c3
  have k4 := cell_regrown z0
  have k5 := cell_regrown z1
  have d1 := inRegion C1.out W
  have d2 := inRegion C2.out W
  have d3 := inRegion C3.out W
  have d4 := inRegion C4.out W
  have d5 := inRegion C5.out W
  have d6 := inRegion C6.out W
  generalize coversB pa (k : Int) pa (l : Int) = b1 at d1 d2
  generalize hasB pa (k : Int) a = b5 at d5 d6
  refine wp_region_quiet_below (by kernel_rfl) (by kernel_rfl) ?_
  repeat (first | go_big_quiet_step (first | with_reducible exact d1 _ _ | with_reducible exact d2 _ _ | with_reducible exact d3 _ _ | with_reducible exact d4 _ _ | with_reducible exact d5 _ _ | with_reducible exact d6 _ _) | quiet_step (first | with_reducible exact d1 _ _ | with_reducible exact d2 _ _ | with_reducible exact d3 _ _ | with_reducible exact d4 _ _ | with_reducible exact d5 _ _ | with_reducible exact d6 _ _))
  refine wpQuiet_nil ?_
  intro _ hw'
  obtain ⟨⟨dq, osq⟩, hw''⟩ := hw'
  subst hw''
  clear d1 d2 d3 d4 d5 d6
  have hr := below_regrown W dq osq
  replace c0 := keeps hr c0
  replace c1 := keeps hr c1
  replace c2 := keeps hr c2
  replace c3 := keeps hr c3
  replace z0 := keeps hr z0
  replace z1 := keeps hr z1
  replace hb := Below.tr hb hr
  clear hr
  clear k0 k1 k2 k3 k4 k5
  generalize grow (redrawn W dq) osq = W at hb c0 c1 c2 c3 z0 z1 ⊢
  go_wp2_with fail
  have k0 := cell_regrown c0
  have k1 := cell_regrown c1
  have k2 := cell_regrown c2
  have k3 := cell_regrown c3
  have k4 := cell_regrown z0
  have k5 := cell_regrown z1
  have d1 := inRegion C7.out W
  have d2 := inRegion C8.out W
  have d3 := inRegion CCmp.out W
  have d4 := inRegion CRCmp.out W
  generalize cmpP pa (k : Int) pa (l : Int) = b9 at d3 d4
  refine wp_region_quiet_below (by kernel_rfl) (by kernel_rfl) ?_
  repeat (first | go_big_quiet_step (first | with_reducible exact d1 _ _ | with_reducible exact d2 _ _ | with_reducible exact d3 _ _ | with_reducible exact d4 _ _) | quiet_step (first | with_reducible exact d1 _ _ | with_reducible exact d2 _ _ | with_reducible exact d3 _ _ | with_reducible exact d4 _ _))
  refine wpQuiet_nil ?_
  intro _ hw'
  obtain ⟨⟨dq, osq⟩, hw''⟩ := hw'
  subst hw''
  clear d1 d2 d3 d4
  have hr := below_regrown W dq osq
  replace c0 := keeps hr c0
  replace c1 := keeps hr c1
  replace c2 := keeps hr c2
  replace c3 := keeps hr c3
  replace z0 := keeps hr z0
  replace z1 := keeps hr z1
  replace hb := Below.tr hb hr
  clear hr
  clear k0 k1 k2 k3 k4 k5
  generalize grow (redrawn W dq) osq = W at hb c0 c1 c2 c3 z0 z1 ⊢
  go_wp2_with fail
  have k0 := cell_regrown c0
  have k1 := cell_regrown c1
  have k2 := cell_regrown c2
  have k3 := cell_regrown c3
  have k4 := cell_regrown z0
  have k5 := cell_regrown z1
  have d1 : m < 32 → _ := fun h => inRegion (same_below (refBit_in pa m hpa h)) W
  have d2 : m < 32 → _ := fun h => inRegion (same_below (refBit_in pa m hpa h)) W
  by_cases g1 : m < k
  · by_cases g2 : m < l
    · exact absurd rfl (hlast g1 g2)
    · have g1' : (m : Int) < (k : Int) := by omega
      have g2' : decide ((m : Int) < (l : Int)) = false := decide_eq_false (by omega)
      have g2'' : ¬ (m : Int) < (l : Int) := by omega
      clear hlast d1 d2
      refine wp_region_quiet_below (by kernel_rfl) (by kernel_rfl) ?_
      repeat (first | go_big_quiet_step (first | fail) | quiet_step (first | fail))
      refine wpQuiet_nil ?_
      intro _ hw'
      obtain ⟨⟨dq, osq⟩, hw''⟩ := hw'
      subst hw''
      have hr := below_regrown W dq osq
      replace c0 := keeps hr c0
      replace c1 := keeps hr c1
      replace c2 := keeps hr c2
      replace c3 := keeps hr c3
      replace z0 := keeps hr z0
      replace z1 := keeps hr z1
      replace hb := Below.tr hb hr
      clear hr
      clear k0 k1 k2 k3 k4 k5
      generalize grow (redrawn W dq) osq = W at hb c0 c1 c2 c3 z0 z1 ⊢
      go_wp2_with (go_at_call 15; refine (lives_any _).mono ?_; rintro e w1 ⟨rfl, hb1⟩; replace c0 := keeps hb1 c0; replace c1 := keeps hb1 c1; replace c2 := keeps hb1 c2; replace c3 := keeps hb1 c3; replace z0 := keeps hb1 z0; replace z1 := keeps hb1 z1; replace hb := Below.tr hb hb1; clear hb1)
      go_ret
      exact ⟨rfl, hb⟩
  · have g1' : decide ((m : Int) < (k : Int)) = false := decide_eq_false (by omega)
    have g1'' : ¬ (m : Int) < (k : Int) := by omega
    clear hlast d1 d2
    refine wp_region_quiet_below (by kernel_rfl) (by kernel_rfl) ?_
    repeat (first | go_big_quiet_step (first | fail) | quiet_step (first | fail))
    refine wpQuiet_nil ?_
    intro _ hw'
    obtain ⟨⟨dq, osq⟩, hw''⟩ := hw'
    subst hw''
    have hr := below_regrown W dq osq
    replace c0 := keeps hr c0
    replace c1 := keeps hr c1
    replace c2 := keeps hr c2
    replace c3 := keeps hr c3
    replace z0 := keeps hr z0
    replace z1 := keeps hr z1
    replace hb := Below.tr hb hr
    clear hr
    clear k0 k1 k2 k3 k4 k5
    generalize grow (redrawn W dq) osq = W at hb c0 c1 c2 c3 z0 z1 ⊢
    go_wp2_with (go_at_call 15; refine (lives_any _).mono ?_; rintro e w1 ⟨rfl, hb1⟩; replace c0 := keeps hb1 c0; replace c1 := keeps hb1 c1; replace c2 := keeps hb1 c2; replace c3 := keeps hb1 c3; replace z0 := keeps hb1 z0; replace z1 := keeps hb1 z1; replace hb := Below.tr hb hb1; clear hb1)
    go_ret
    exact ⟨rfl, hb⟩

set_option maxHeartbeats 1000000 in
theorem coversLaw_addr (pa : Nat) (k : Nat) (qa : Nat) (l : Nat) (a : Nat) (hpa : pa < 4294967296) (hqa : qa < 4294967296) (ha : a < 4294967296) (hp : goodB pa (k : Int) = true) (hq : goodB qa (l : Int) = true) (hne : ¬ pa = qa) (h2 : coversB qa (l : Int) pa (k : Int) = true) (w : World) :
    Calls Tryd.prog 4 #[.agg #[.int .u32 pa, .int .i64 k], .agg #[.int .u32 qa, .int .i64 l], .int .u32 a] w fun e w' => e = .returned (.bool true) ∧ Below w.heap.size w w' := by
  have hb := below_new2 w (.cells #[.int .u32 (pa : Int), .int .i64 k] 24) (.cells #[.int .u32 (qa : Int), .int .i64 l] 24)
  obtain ⟨c0, c1, c2, c3⟩ := cells_four w (.int .u32 (pa : Int)) (.int .i64 k) (.int .u32 (qa : Int)) (.int .i64 l) 24
  have hneI : ¬ ((pa : Int) = (qa : Int)) := by omega
  have hw : withinB pa (k : Int) qa (l : Int) = true := by unfold withinB; rw [h2, decide_eq_false (fun h => hne h.1)]; rfl
  have C1 := Go.Lib.hid (covers_any pa (k : Int) qa (l : Int) hpa hqa)
  have C2 := Go.Lib.hid (refCovers_any pa (k : Int) qa (l : Int) hpa hqa)
  have C3 := Go.Lib.hid (h2 ▸ refCovers_any qa (l : Int) pa (k : Int) hqa hpa)
  have C4 := Go.Lib.hid (hw ▸ within_any pa (k : Int) qa (l : Int) hpa hqa)
  have C5 := Go.Lib.hid (has_any pa (k : Int) a hpa ha)
  have C6 := Go.Lib.hid (has_one pa (k : Int) a ▸ refCovers_any pa (k : Int) a 32 hpa ha)
  have CP := Go.Lib.hid (hp ▸ refGood_any pa (k : Int) hpa)
  have CQ := Go.Lib.hid (hq ▸ refGood_any qa (l : Int) hqa)
  have lp := goodB_len hp
  have lq := goodB_len hq
  have hm := com_parts pa k qa l hpa hqa
  have hlast := com_last pa k qa l hpa hqa (by omega)
  have CM := Go.Lib.hid (common_good pa k qa l hpa hqa (by omega) hp hq)
  have CCmp := Go.Lib.hid (cmp_good pa (k : Int) qa (l : Int) hpa hqa hp hq)
  have CRCmp := Go.Lib.hid (refCmp_any pa (k : Int) qa (l : Int))
  obtain ⟨m, hmm⟩ : ∃ m, m = comN pa k qa l := ⟨_, rfl⟩
  rw [← hmm] at hm hlast CM
  clear hmm
  have hcl : cutN pa m < 4294967296 := Nat.lt_of_le_of_lt (cutN_le pa m) hpa
  have hgc : goodB (cutN pa m) (m : Int) = true := by rw [goodB_in hm.2.2.1]; exact decide_eq_true (by rw [cut_less (Nat.le_refl _) hm.2.2.1])
  have hc1 : coversB (cutN pa m) (m : Int) pa (k : Int) = true := coversB_mk hgc hp (by omega) rfl
  have hc2 : coversB (cutN pa m) (m : Int) qa (l : Int) = true := coversB_mk hgc hq (by omega) (by rw [hm.2.2.2]; rfl)
  have C7 := Go.Lib.hid (hc1 ▸ refCovers_any (cutN pa m) (m : Int) pa (k : Int) hcl hpa)
  have C8 := Go.Lib.hid (hc2 ▸ refCovers_any (cutN pa m) (m : Int) qa (l : Int) hcl hqa)
  have hm32 := hm.2.2.1
  clear hm hgc hc1 hc2 hcl
  clear h2 hw
  go_enter Tryd.func4, Tryd.ntmps4
  go_wp2_with fail
  generalize (w.alloc (.cells #[.int .u32 (pa : Int), .int .i64 k] 24)).alloc (.cells #[.int .u32 (qa : Int), .int .i64 l] 24) = W at hb c0 c1 c2 c3 ⊢
  go_wp2_with (first | (go_at_call 12; with_reducible refine (CP.out _).mono ?_; rintro e w1 ⟨rfl, hb1⟩; replace c0 := keeps hb1 c0; replace c1 := keeps hb1 c1; replace c2 := keeps hb1 c2; replace c3 := keeps hb1 c3; replace hb := Below.tr hb hb1; clear hb1) | (go_at_call 12; with_reducible refine (CQ.out _).mono ?_; rintro e w1 ⟨rfl, hb1⟩; replace c0 := keeps hb1 c0; replace c1 := keeps hb1 c1; replace c2 := keeps hb1 c2; replace c3 := keeps hb1 c3; replace hb := Below.tr hb hb1; clear hb1) | (go_at_call 16; with_reducible refine (CM.out _).mono ?_; rintro e w1 ⟨rfl, hb1⟩; replace c0 := keeps hb1 c0; replace c1 := keeps hb1 c1; replace c2 := keeps hb1 c2; replace c3 := keeps hb1 c3; replace hb := Below.tr hb hb1; clear hb1))
  obtain ⟨z0, z1⟩ := cells_two w1 (.int .u32 (cutN pa m : Int)) (.int .i64 m) 24
  have hz := below_new w1 (.cells #[.int .u32 (cutN pa m : Int), .int .i64 m] 24)
  replace c0 := keeps hz c0
  replace c1 := keeps hz c1
  replace c2 := keeps hz c2
  replace c3 := keeps hz c3
  replace hb := Below.tr hb hz
  clear hz
  generalize w1.alloc (.cells #[.int .u32 (cutN pa m : Int), .int .i64 m] 24) = W at hb c0 c1 c2 c3 z0 z1 ⊢
  have k0 := cell_regrown c0
  have k1 := cell_regrown c1
  have k2 := cell_regrown c2
  have k3 := cell_regrown c3
  have k4 := cell_regrown z0
  have k5 := cell_regrown z1
  have d1 := inRegion C1.out W
  have d2 := inRegion C2.out W
  have d3 := inRegion C3.out W
  have d4 := inRegion C4.out W
  have d5 := inRegion C5.out W
  have d6 := inRegion C6.out W
  generalize coversB pa (k : Int) qa (l : Int) = b1 at d1 d2
  generalize hasB pa (k : Int) a = b5 at d5 d6
  refine wp_region_quiet_below (by kernel_rfl) (by kernel_rfl) ?_
  repeat (first | go_big_quiet_step (first | with_reducible exact d1 _ _ | with_reducible exact d2 _ _ | with_reducible exact d3 _ _ | with_reducible exact d4 _ _ | with_reducible exact d5 _ _ | with_reducible exact d6 _ _) | quiet_step (first | with_reducible exact d1 _ _ | with_reducible exact d2 _ _ | with_reducible exact d3 _ _ | with_reducible exact d4 _ _ | with_reducible exact d5 _ _ | with_reducible exact d6 _ _))
  refine wpQuiet_nil ?_
  intro _ hw'
  obtain ⟨⟨dq, osq⟩, hw''⟩ := hw'
  subst hw''
  clear d1 d2 d3 d4 d5 d6
  have hr := below_regrown W dq osq
  replace c0 := keeps hr c0
  replace c1 := keeps hr c1
  replace c2 := keeps hr c2
  replace c3 := keeps hr c3
  replace z0 := keeps hr z0
  replace z1 := keeps hr z1
  replace hb := Below.tr hb hr
  clear hr
  clear k0 k1 k2 k3 k4 k5
  generalize grow (redrawn W dq) osq = W at hb c0 c1 c2 c3 z0 z1 ⊢
  go_wp2_with fail
  have k0 := cell_regrown c0
  have k1 := cell_regrown c1
  have k2 := cell_regrown c2
  have k3 := cell_regrown c3
  have k4 := cell_regrown z0
  have k5 := cell_regrown z1
  have d1 := inRegion C7.out W
  have d2 := inRegion C8.out W
  have d3 := inRegion CCmp.out W
  have d4 := inRegion CRCmp.out W
  generalize cmpP pa (k : Int) qa (l : Int) = b9 at d3 d4
  refine wp_region_quiet_below (by kernel_rfl) (by kernel_rfl) ?_
  repeat (first | go_big_quiet_step (first | with_reducible exact d1 _ _ | with_reducible exact d2 _ _ | with_reducible exact d3 _ _ | with_reducible exact d4 _ _) | quiet_step (first | with_reducible exact d1 _ _ | with_reducible exact d2 _ _ | with_reducible exact d3 _ _ | with_reducible exact d4 _ _))
  refine wpQuiet_nil ?_
  intro _ hw'
  obtain ⟨⟨dq, osq⟩, hw''⟩ := hw'
  subst hw''
  clear d1 d2 d3 d4
  have hr := below_regrown W dq osq
  replace c0 := keeps hr c0
  replace c1 := keeps hr c1
  replace c2 := keeps hr c2
  replace c3 := keeps hr c3
  replace z0 := keeps hr z0
  replace z1 := keeps hr z1
  replace hb := Below.tr hb hr
  clear hr
  clear k0 k1 k2 k3 k4 k5
  generalize grow (redrawn W dq) osq = W at hb c0 c1 c2 c3 z0 z1 ⊢
  go_wp2_with fail
  have k0 := cell_regrown c0
  have k1 := cell_regrown c1
  have k2 := cell_regrown c2
  have k3 := cell_regrown c3
  have k4 := cell_regrown z0
  have k5 := cell_regrown z1
  have d1 : m < 32 → _ := fun h => inRegion (same_below (refBit_in pa m hpa h)) W
  have d2 : m < 32 → _ := fun h => inRegion (same_below (refBit_in qa m hqa h)) W
  by_cases g1 : m < k
  · by_cases g2 : m < l
    · have g1' : (m : Int) < (k : Int) := by omega
      have g2' : (m : Int) < (l : Int) := by omega
      have g3 : ((bitN pa m : Int) == (bitN qa m : Int)) = false := by
        have h := hlast g1 g2
        simp; omega
      replace d1 := d1 (by omega)
      replace d2 := d2 (by omega)
      clear hlast
      refine wp_region_quiet_below (by kernel_rfl) (by kernel_rfl) ?_
      repeat (first | go_big_quiet_step (first | with_reducible exact d1 _ _ | with_reducible exact d2 _ _) | quiet_step (first | with_reducible exact d1 _ _ | with_reducible exact d2 _ _))
      refine wpQuiet_nil ?_
      intro _ hw'
      obtain ⟨⟨dq, osq⟩, hw''⟩ := hw'
      subst hw''
      clear d1 d2
      have hr := below_regrown W dq osq
      replace c0 := keeps hr c0
      replace c1 := keeps hr c1
      replace c2 := keeps hr c2
      replace c3 := keeps hr c3
      replace z0 := keeps hr z0
      replace z1 := keeps hr z1
      replace hb := Below.tr hb hr
      clear hr
      clear k0 k1 k2 k3 k4 k5
      generalize grow (redrawn W dq) osq = W at hb c0 c1 c2 c3 z0 z1 ⊢
      go_wp2_with (go_at_call 15; refine (lives_any _).mono ?_; rintro e w1 ⟨rfl, hb1⟩; replace c0 := keeps hb1 c0; replace c1 := keeps hb1 c1; replace c2 := keeps hb1 c2; replace c3 := keeps hb1 c3; replace z0 := keeps hb1 z0; replace z1 := keeps hb1 z1; replace hb := Below.tr hb hb1; clear hb1)
      go_ret
      exact ⟨rfl, hb⟩
    · have g1' : (m : Int) < (k : Int) := by omega
      have g2' : decide ((m : Int) < (l : Int)) = false := decide_eq_false (by omega)
      have g2'' : ¬ (m : Int) < (l : Int) := by omega
      clear hlast d1 d2
      refine wp_region_quiet_below (by kernel_rfl) (by kernel_rfl) ?_
      repeat (first | go_big_quiet_step (first | fail) | quiet_step (first | fail))
      refine wpQuiet_nil ?_
      intro _ hw'
      obtain ⟨⟨dq, osq⟩, hw''⟩ := hw'
      subst hw''
      have hr := below_regrown W dq osq
      replace c0 := keeps hr c0
      replace c1 := keeps hr c1
      replace c2 := keeps hr c2
      replace c3 := keeps hr c3
      replace z0 := keeps hr z0
      replace z1 := keeps hr z1
      replace hb := Below.tr hb hr
      clear hr
      clear k0 k1 k2 k3 k4 k5
      generalize grow (redrawn W dq) osq = W at hb c0 c1 c2 c3 z0 z1 ⊢
      go_wp2_with (go_at_call 15; refine (lives_any _).mono ?_; rintro e w1 ⟨rfl, hb1⟩; replace c0 := keeps hb1 c0; replace c1 := keeps hb1 c1; replace c2 := keeps hb1 c2; replace c3 := keeps hb1 c3; replace z0 := keeps hb1 z0; replace z1 := keeps hb1 z1; replace hb := Below.tr hb hb1; clear hb1)
      go_ret
      exact ⟨rfl, hb⟩
  · have g1' : decide ((m : Int) < (k : Int)) = false := decide_eq_false (by omega)
    have g1'' : ¬ (m : Int) < (k : Int) := by omega
    clear hlast d1 d2
    refine wp_region_quiet_below (by kernel_rfl) (by kernel_rfl) ?_
    repeat (first | go_big_quiet_step (first | fail) | quiet_step (first | fail))
    refine wpQuiet_nil ?_
    intro _ hw'
    obtain ⟨⟨dq, osq⟩, hw''⟩ := hw'
    subst hw''
    have hr := below_regrown W dq osq
    replace c0 := keeps hr c0
    replace c1 := keeps hr c1
    replace c2 := keeps hr c2
    replace c3 := keeps hr c3
    replace z0 := keeps hr z0
    replace z1 := keeps hr z1
    replace hb := Below.tr hb hr
    clear hr
    clear k0 k1 k2 k3 k4 k5
    generalize grow (redrawn W dq) osq = W at hb c0 c1 c2 c3 z0 z1 ⊢
    go_wp2_with (go_at_call 15; refine (lives_any _).mono ?_; rintro e w1 ⟨rfl, hb1⟩; replace c0 := keeps hb1 c0; replace c1 := keeps hb1 c1; replace c2 := keeps hb1 c2; replace c3 := keeps hb1 c3; replace z0 := keeps hb1 z0; replace z1 := keeps hb1 z1; replace hb := Below.tr hb hb1; clear hb1)
    go_ret
    exact ⟨rfl, hb⟩

theorem coversLaw_walk (pa : Nat) (pn : Int) (qa : Nat) (qn : Int) (a : Nat) (hpa : pa < 4294967296) (hqa : qa < 4294967296) (ha : a < 4294967296) (w : World) :
    Calls Tryd.prog 4 #[.agg #[.int .u32 pa, .int .i64 pn], .agg #[.int .u32 qa, .int .i64 qn], .int .u32 a] w fun e w' => e = .returned (.bool true) ∧ Below w.heap.size w w' := by
  cases hp : goodB pa pn
  · exact coversLaw_bad1 pa pn qa qn a hpa hqa ha hp w
  cases hq : goodB qa qn
  · exact coversLaw_bad2 pa pn qa qn a hpa hqa ha hp hq w
  have lp := goodB_len hp
  have lq := goodB_len hq
  obtain ⟨k, rfl⟩ := Int.eq_ofNat_of_zero_le lp.1
  obtain ⟨l, rfl⟩ := Int.eq_ofNat_of_zero_le lq.1
  cases h2 : coversB qa (l : Int) pa (k : Int)
  · exact coversLaw_away pa k qa l a hpa hqa ha hp hq h2 w
  by_cases e1 : pa = qa
  · subst e1
    by_cases e2 : k = l
    · subst e2
      exact coversLaw_same pa k a hpa ha hp hq h2 w
    · exact coversLaw_len pa k l a hpa ha hp hq e2 h2 w
  · exact coversLaw_addr pa k qa l a hpa hqa ha hp hq e1 h2 w

end Go.Proofs.YtmdfihmmencdoaaDoor.Pfx
