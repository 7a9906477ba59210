/- PrefixMakes: the law's walk. The prefix of any address and length, its mask and bits, and which prefixes are good. -/
import Derived.Test.YtmdfihmmencdoaaDoorPfxLives
namespace Go.Proofs.YtmdfihmmencdoaaDoor.Pfx
open Go.RowKit Go.Sort

theorem cut_all (k : Nat) (hk : k ≤ 32) : cutN 4294967295 k = maskN k := by
  have h := and_mask 4294967295 k (by decide) hk
  have h2 := Nat.and_two_pow_sub_one_eq_mod (maskN k) 32
  rw [Nat.and_comm, show 2 ^ 32 - 1 = 4294967295 by decide, Nat.mod_eq_of_lt (maskN_lt k)] at h2
  rw [← h, h2]

theorem makes_low (a : Nat) (n : Int) (hn' : n < 0) (pa : Nat) (pn : Int) (hpa : pa < 4294967296) (w : World) :
    Calls Tryd.prog 3 #[.int .u32 a, .int .i64 n, .agg #[.int .u32 pa, .int .i64 pn]] w fun e w' => e = .returned (.bool true) ∧ Below w.heap.size w w' := by
  have hb := below_new w (.cells #[.int .u32 (pa : Int), .int .i64 pn] 24)
  obtain ⟨c0, c1⟩ := cells_two w (.int .u32 (pa : Int)) (.int .i64 pn) 24
  have hn : n < 0 ∨ 32 < n := by omega
  have CM := Go.Lib.hid (make_out a n hn)
  have hm := mask_any n
  rw [show clampN n = 0 by unfold clampN; rw [if_pos hn']] at hm
  have CK := Go.Lib.hid hm
  have hc := refCut_in 4294967295 0 (by decide) (by decide)
  rw [show cutN 4294967295 0 = maskN 0 by decide] at hc
  have CC := Go.Lib.hid hc
  clear hm hc
  have CB := Go.Lib.hid (bit_out a n (by omega))
  have CBR := Go.Lib.hid (bit_out a n (by omega))
  clear hn
  go_enter Tryd.func3, Tryd.ntmps3
  go_wp2_with fail
  generalize w.alloc (.cells #[.int .u32 (pa : Int), .int .i64 pn] 24) = W at hb c0 c1 ⊢
  go_wp2_with (go_at_call 8; refine (CM.out _).mono ?_; rintro e w1 ⟨rfl, hb1⟩; replace c0 := keeps hb1 c0; replace c1 := keeps hb1 c1; replace hb := Below.tr hb hb1; clear hb1)
  obtain ⟨q0, q1⟩ := cells_two w1 (.int .u32 0) (.int .i64 0) 24
  have hq := below_new w1 (.cells #[.int .u32 0, .int .i64 0] 24)
  replace c0 := keeps hq c0
  replace c1 := keeps hq c1
  replace hb := Below.tr hb hq
  clear hq
  generalize w1.alloc (.cells #[.int .u32 0, .int .i64 0] 24) = W at hb c0 c1 q0 q1 ⊢
  have k0 := cell_regrown c0
  have k1 := cell_regrown c1
  have k2 := cell_regrown q0
  have k3 := cell_regrown q1
  have cK := inRegion (same_below CK.out) W
  have cC := inRegion (same_below CC.out) W
  have cG := inRegion (good_any pa pn hpa) W
  have cR := inRegion (refGood_any pa pn hpa) W
  refine wp_region_quiet_below (by kernel_rfl) (by kernel_rfl) ?_
  repeat (first | go_big_quiet_step (first | exact cK _ _ | exact cC _ _ | exact cG _ _ | exact cR _ _) | quiet_step (first | exact cK _ _ | exact cC _ _ | exact cG _ _ | exact cR _ _))
  refine wpQuiet_nil ?_
  intro _ hw'
  obtain ⟨⟨dq, osq⟩, hw''⟩ := hw'
  subst hw''
  clear cK cC cG cR
  have hr := below_regrown W dq osq
  replace c0 := keeps hr c0
  replace c1 := keeps hr c1
  replace q0 := keeps hr q0
  replace q1 := keeps hr q1
  replace hb := Below.tr hb hr
  clear hr k0 k1 k2 k3
  generalize grow (redrawn W dq) osq = W at hb c0 c1 q0 q1 ⊢
  go_wp2_with (first | (go_at_call 13; refine (CB.out _).mono ?_; rintro e w2 ⟨rfl, rfl⟩) | (go_at_call 14; refine (CBR.out _).mono ?_; rintro e w2 ⟨rfl, rfl⟩) | (go_at_call 15; refine (lives_any _).mono ?_; rintro e w3 ⟨rfl, hb1⟩; replace hb := Below.tr hb hb1; clear hb1))
  go_ret
  exact ⟨rfl, hb⟩

theorem makes_high (a : Nat) (n : Int) (hn' : 32 < n) (pa : Nat) (pn : Int) (hpa : pa < 4294967296) (w : World) :
    Calls Tryd.prog 3 #[.int .u32 a, .int .i64 n, .agg #[.int .u32 pa, .int .i64 pn]] w fun e w' => e = .returned (.bool true) ∧ Below w.heap.size w w' := by
  have hb := below_new w (.cells #[.int .u32 (pa : Int), .int .i64 pn] 24)
  obtain ⟨c0, c1⟩ := cells_two w (.int .u32 (pa : Int)) (.int .i64 pn) 24
  have hn : n < 0 ∨ 32 < n := by omega
  have CM := Go.Lib.hid (make_out a n hn)
  have hm := mask_any n
  rw [show clampN n = 32 by unfold clampN; rw [if_neg (by omega), if_pos hn']] at hm
  have CK := Go.Lib.hid hm
  have hc := refCut_in 4294967295 32 (by decide) (by decide)
  rw [show cutN 4294967295 32 = maskN 32 by decide] at hc
  have CC := Go.Lib.hid hc
  clear hm hc
  have CB := Go.Lib.hid (bit_out a n (by omega))
  have CBR := Go.Lib.hid (bit_out a n (by omega))
  clear hn
  go_enter Tryd.func3, Tryd.ntmps3
  go_wp2_with fail
  generalize w.alloc (.cells #[.int .u32 (pa : Int), .int .i64 pn] 24) = W at hb c0 c1 ⊢
  go_wp2_with (go_at_call 8; refine (CM.out _).mono ?_; rintro e w1 ⟨rfl, hb1⟩; replace c0 := keeps hb1 c0; replace c1 := keeps hb1 c1; replace hb := Below.tr hb hb1; clear hb1)
  obtain ⟨q0, q1⟩ := cells_two w1 (.int .u32 0) (.int .i64 0) 24
  have hq := below_new w1 (.cells #[.int .u32 0, .int .i64 0] 24)
  replace c0 := keeps hq c0
  replace c1 := keeps hq c1
  replace hb := Below.tr hb hq
  clear hq
  generalize w1.alloc (.cells #[.int .u32 0, .int .i64 0] 24) = W at hb c0 c1 q0 q1 ⊢
  have k0 := cell_regrown c0
  have k1 := cell_regrown c1
  have k2 := cell_regrown q0
  have k3 := cell_regrown q1
  have cK := inRegion (same_below CK.out) W
  have cC := inRegion (same_below CC.out) W
  have cG := inRegion (good_any pa pn hpa) W
  have cR := inRegion (refGood_any pa pn hpa) W
  refine wp_region_quiet_below (by kernel_rfl) (by kernel_rfl) ?_
  repeat (first | go_big_quiet_step (first | exact cK _ _ | exact cC _ _ | exact cG _ _ | exact cR _ _) | quiet_step (first | exact cK _ _ | exact cC _ _ | exact cG _ _ | exact cR _ _))
  refine wpQuiet_nil ?_
  intro _ hw'
  obtain ⟨⟨dq, osq⟩, hw''⟩ := hw'
  subst hw''
  clear cK cC cG cR
  have hr := below_regrown W dq osq
  replace c0 := keeps hr c0
  replace c1 := keeps hr c1
  replace q0 := keeps hr q0
  replace q1 := keeps hr q1
  replace hb := Below.tr hb hr
  clear hr k0 k1 k2 k3
  generalize grow (redrawn W dq) osq = W at hb c0 c1 q0 q1 ⊢
  go_wp2_with (first | (go_at_call 13; refine (CB.out _).mono ?_; rintro e w2 ⟨rfl, rfl⟩) | (go_at_call 14; refine (CBR.out _).mono ?_; rintro e w2 ⟨rfl, rfl⟩) | (go_at_call 15; refine (lives_any _).mono ?_; rintro e w3 ⟨rfl, hb1⟩; replace hb := Below.tr hb hb1; clear hb1))
  go_ret
  exact ⟨rfl, hb⟩

theorem makes_in (a : Nat) (k : Nat) (hk : k < 32) (pa : Nat) (pn : Int) (ha : a < 4294967296) (hpa : pa < 4294967296) (w : World) :
    Calls Tryd.prog 3 #[.int .u32 a, .int .i64 k, .agg #[.int .u32 pa, .int .i64 pn]] w fun e w' => e = .returned (.bool true) ∧ Below w.heap.size w w' := by
  have hb := below_new w (.cells #[.int .u32 (pa : Int), .int .i64 pn] 24)
  obtain ⟨c0, c1⟩ := cells_two w (.int .u32 (pa : Int)) (.int .i64 pn) 24
  have CM := Go.Lib.hid (make_in a k ha (by omega))
  have CK := Go.Lib.hid (mask_in k (by omega))
  have hc := refCut_in 4294967295 k (by decide) (by omega)
  rw [cut_all k (by omega)] at hc
  have CC := Go.Lib.hid hc
  clear hc
  have CA := Go.Lib.hid (refCut_in a k ha (by omega))
  have CB := Go.Lib.hid (bit_in a k ha hk)
  have CBR := Go.Lib.hid (refBit_in a k ha hk)
  go_enter Tryd.func3, Tryd.ntmps3
  go_wp2_with fail
  generalize w.alloc (.cells #[.int .u32 (pa : Int), .int .i64 pn] 24) = W at hb c0 c1 ⊢
  go_wp2_with (go_at_call 8; refine (CM.out _).mono ?_; rintro e w1 ⟨rfl, hb1⟩; replace c0 := keeps hb1 c0; replace c1 := keeps hb1 c1; replace hb := Below.tr hb hb1; clear hb1)
  obtain ⟨q0, q1⟩ := cells_two w1 (.int .u32 (cutN a k : Int)) (.int .i64 k) 24
  have hq := below_new w1 (.cells #[.int .u32 (cutN a k : Int), .int .i64 k] 24)
  replace c0 := keeps hq c0
  replace c1 := keeps hq c1
  replace hb := Below.tr hb hq
  clear hq
  generalize w1.alloc (.cells #[.int .u32 (cutN a k : Int), .int .i64 k] 24) = W at hb c0 c1 q0 q1 ⊢
  have k0 := cell_regrown c0
  have k1 := cell_regrown c1
  have k2 := cell_regrown q0
  have k3 := cell_regrown q1
  have cK := inRegion (same_below CK.out) W
  have cC := inRegion (same_below CC.out) W
  have cG := inRegion (good_any pa pn hpa) W
  have cR := inRegion (refGood_any pa pn hpa) W
  refine wp_region_quiet_below (by kernel_rfl) (by kernel_rfl) ?_
  repeat (first | go_big_quiet_step (first | exact cK _ _ | exact cC _ _ | exact cG _ _ | exact cR _ _) | quiet_step (first | exact cK _ _ | exact cC _ _ | exact cG _ _ | exact cR _ _))
  refine wpQuiet_nil ?_
  intro _ hw'
  obtain ⟨⟨dq, osq⟩, hw''⟩ := hw'
  subst hw''
  clear cK cC cG cR
  have hr := below_regrown W dq osq
  replace c0 := keeps hr c0
  replace c1 := keeps hr c1
  replace q0 := keeps hr q0
  replace q1 := keeps hr q1
  replace hb := Below.tr hb hr
  clear hr k0 k1 k2 k3
  generalize grow (redrawn W dq) osq = W at hb c0 c1 q0 q1 ⊢
  go_wp2_with (first | (go_at_call 13; refine (CB.out _).mono ?_; rintro e w2 ⟨rfl, rfl⟩) | (go_at_call 14; refine (CBR.out _).mono ?_; rintro e w2 ⟨rfl, rfl⟩) | (go_at_call 15; refine (lives_any _).mono ?_; rintro e w3 ⟨rfl, hb1⟩; replace hb := Below.tr hb hb1; clear hb1))
  have k0 := cell_regrown c0
  have k1 := cell_regrown c1
  have k2 := cell_regrown q0
  have k3 := cell_regrown q1
  have cA := inRegion (same_below CA.out) W
  have cL := inRegion lives_any W
  refine wp_region_quiet_below (by kernel_rfl) (by kernel_rfl) ?_
  repeat (first | go_big_quiet_step (first | exact cA _ _ | exact cL _ _) | quiet_step (first | exact cA _ _ | exact cL _ _))
  refine wpQuiet_nil ?_
  intro _ hw'
  obtain ⟨⟨dq, osq⟩, hw''⟩ := hw'
  subst hw''
  go_wp2_with fail
  go_ret
  exact ⟨rfl, Below.tr hb (below_regrown W dq osq)⟩

theorem makes_32 (a : Nat)  (pa : Nat) (pn : Int) (ha : a < 4294967296) (hpa : pa < 4294967296) (w : World) :
    Calls Tryd.prog 3 #[.int .u32 a, .int .i64 32, .agg #[.int .u32 pa, .int .i64 pn]] w fun e w' => e = .returned (.bool true) ∧ Below w.heap.size w w' := by
  have hb := below_new w (.cells #[.int .u32 (pa : Int), .int .i64 pn] 24)
  obtain ⟨c0, c1⟩ := cells_two w (.int .u32 (pa : Int)) (.int .i64 pn) 24
  have CM := Go.Lib.hid (make_in a 32 ha (by omega))
  have CK := Go.Lib.hid (mask_in 32 (by omega))
  have hc := refCut_in 4294967295 32 (by decide) (by omega)
  rw [cut_all 32 (by omega)] at hc
  have CC := Go.Lib.hid hc
  clear hc
  have CA := Go.Lib.hid (refCut_in a 32 ha (by omega))
  have CB := Go.Lib.hid (bit_out a 32 (by omega))
  have CBR := Go.Lib.hid (bit_out a 32 (by omega))
  go_enter Tryd.func3, Tryd.ntmps3
  go_wp2_with fail
  generalize w.alloc (.cells #[.int .u32 (pa : Int), .int .i64 pn] 24) = W at hb c0 c1 ⊢
  go_wp2_with (go_at_call 8; refine (CM.out _).mono ?_; rintro e w1 ⟨rfl, hb1⟩; replace c0 := keeps hb1 c0; replace c1 := keeps hb1 c1; replace hb := Below.tr hb hb1; clear hb1)
  obtain ⟨q0, q1⟩ := cells_two w1 (.int .u32 (cutN a 32 : Int)) (.int .i64 32) 24
  have hq := below_new w1 (.cells #[.int .u32 (cutN a 32 : Int), .int .i64 32] 24)
  replace c0 := keeps hq c0
  replace c1 := keeps hq c1
  replace hb := Below.tr hb hq
  clear hq
  generalize w1.alloc (.cells #[.int .u32 (cutN a 32 : Int), .int .i64 32] 24) = W at hb c0 c1 q0 q1 ⊢
  have k0 := cell_regrown c0
  have k1 := cell_regrown c1
  have k2 := cell_regrown q0
  have k3 := cell_regrown q1
  have cK := inRegion (same_below CK.out) W
  have cC := inRegion (same_below CC.out) W
  have cG := inRegion (good_any pa pn hpa) W
  have cR := inRegion (refGood_any pa pn hpa) W
  refine wp_region_quiet_below (by kernel_rfl) (by kernel_rfl) ?_
  repeat (first | go_big_quiet_step (first | exact cK _ _ | exact cC _ _ | exact cG _ _ | exact cR _ _) | quiet_step (first | exact cK _ _ | exact cC _ _ | exact cG _ _ | exact cR _ _))
  refine wpQuiet_nil ?_
  intro _ hw'
  obtain ⟨⟨dq, osq⟩, hw''⟩ := hw'
  subst hw''
  clear cK cC cG cR
  have hr := below_regrown W dq osq
  replace c0 := keeps hr c0
  replace c1 := keeps hr c1
  replace q0 := keeps hr q0
  replace q1 := keeps hr q1
  replace hb := Below.tr hb hr
  clear hr k0 k1 k2 k3
  generalize grow (redrawn W dq) osq = W at hb c0 c1 q0 q1 ⊢
  go_wp2_with (first | (go_at_call 13; refine (CB.out _).mono ?_; rintro e w2 ⟨rfl, rfl⟩) | (go_at_call 14; refine (CBR.out _).mono ?_; rintro e w2 ⟨rfl, rfl⟩) | (go_at_call 15; refine (lives_any _).mono ?_; rintro e w3 ⟨rfl, hb1⟩; replace hb := Below.tr hb hb1; clear hb1))
  have k0 := cell_regrown c0
  have k1 := cell_regrown c1
  have k2 := cell_regrown q0
  have k3 := cell_regrown q1
  have cA := inRegion (same_below CA.out) W
  have cL := inRegion lives_any W
  refine wp_region_quiet_below (by kernel_rfl) (by kernel_rfl) ?_
  repeat (first | go_big_quiet_step (first | exact cA _ _ | exact cL _ _) | quiet_step (first | exact cA _ _ | exact cL _ _))
  refine wpQuiet_nil ?_
  intro _ hw'
  obtain ⟨⟨dq, osq⟩, hw''⟩ := hw'
  subst hw''
  go_wp2_with fail
  go_ret
  exact ⟨rfl, Below.tr hb (below_regrown W dq osq)⟩

theorem makes_walk (a : Nat) (n : Int) (pa : Nat) (pn : Int) (ha : a < 4294967296) (hpa : pa < 4294967296) (w : World) :
    Calls Tryd.prog 3 #[.int .u32 a, .int .i64 n, .agg #[.int .u32 pa, .int .i64 pn]] w fun e w' => e = .returned (.bool true) ∧ Below w.heap.size w w' := by
  by_cases h0 : n < 0
  · exact makes_low a n h0 pa pn hpa w
  by_cases h1 : 32 < n
  · exact makes_high a n h1 pa pn hpa w
  obtain ⟨k, rfl⟩ := Int.eq_ofNat_of_zero_le (by omega : 0 ≤ n)
  by_cases h2 : k < 32
  · exact makes_in a k h2 pa pn ha hpa w
  · obtain rfl : k = 32 := by omega
    exact makes_32 a pa pn ha hpa w

end Go.Proofs.YtmdfihmmencdoaaDoor.Pfx
