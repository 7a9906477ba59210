/- The contracts of Good, Make, Has, Covers, Within, Cmp, Halves, and of the reference's Good, Covers, Cmp. -/
import Derived.Test.YtgjdpmpbldofpaaDoorPfxWalkA
namespace Go.Proofs.YtgjdpmpbldofpaaDoor.Pfx
open Go.RowKit Go.Sort

theorem goodB_no {a : Nat} {n : Int} (h : fitsB n = false) : goodB a n = false := by unfold goodB; rw [h]; rfl
theorem goodB_in {a k : Nat} (hk : k ≤ 32) : goodB a (k : Int) = decide (cutN a k = a) := by
  unfold goodB; rw [fitsB_yes (by omega) (by omega)]; rfl
theorem goodB_mod {a k : Nat} (hk : k ≤ 32) : ((a : Int) % 2 ^ (32 - k) == 0) = goodB a (k : Int) := by
  rw [goodB_in hk, Bool.eq_iff_iff, beq_iff_eq, decide_eq_true_iff, cut_iff_mod]
  have e : ((a : Int) % 2 ^ (32 - k)) = ((a % 2 ^ (32 - k) : Nat) : Int) := by push_cast; rfl
  rw [e]; omega
theorem goodB_len {a : Nat} {n : Int} (h : goodB a n = true) : 0 ≤ n ∧ n ≤ 32 := by
  unfold goodB at h; simp only [Bool.and_eq_true] at h; exact of_decide_eq_true h.1
theorem goodB_cut {a k : Nat} (h : goodB a (k : Int) = true) : cutN a k = a := by
  have := goodB_len h
  rw [goodB_in (by omega)] at h; exact of_decide_eq_true h

theorem good_any (a : Nat) (n : Int) (ha : a < 4294967296) (w : World) :
    Calls Tryd.prog 26 #[.agg #[.int .u32 a, .int .i64 n]] w fun e w' => e = .returned (.bool (goodB a n)) ∧ Below w.heap.size w w' := by
  cases hf : fitsB n
  · rw [goodB_no hf]
    have hb := below_new w (.cells #[.int .u32 (a : Int), .int .i64 n] 24)
    obtain ⟨c0, c1⟩ := cells_two w (.int .u32 (a : Int)) (.int .i64 n) 24
    go_enter Tryd.func26, Tryd.ntmps26
    go_wp2_with fail
    generalize w.alloc (.cells #[.int .u32 (a : Int), .int .i64 n] 24) = W at hb c0 c1 ⊢
    have k0 := cell_regrown c0
    have k1 := cell_regrown c1
    have cF := inRegion (same_below fun w => hf ▸ fits_any n w) W
    refine wp_region_quiet_below (by kernel_rfl) (by kernel_rfl) ?_
    repeat (first | go_big_quiet_step (exact cF _ _) | quiet_step (exact cF _ _))
    refine wpQuiet_nil ?_
    intro _ hw'
    obtain ⟨⟨dq, osq⟩, hw''⟩ := hw'
    subst hw''
    go_wp2_with fail
    go_ret
    exact ⟨rfl, Below.tr hb (below_regrown W dq osq)⟩
  · have hn : 0 ≤ n ∧ n ≤ 32 := of_decide_eq_true hf
    obtain ⟨k, rfl⟩ := Int.eq_ofNat_of_zero_le hn.1
    have hk : k ≤ 32 := by omega
    have hm := bits_andNot_mask a k ha hk
    have hg := Go.Lib.hid (goodB_mod (a := a) hk)
    have hb := below_new w (.cells #[.int .u32 (a : Int), .int .i64 k] 24)
    obtain ⟨c0, c1⟩ := cells_two w (.int .u32 (a : Int)) (.int .i64 k) 24
    go_enter Tryd.func26, Tryd.ntmps26
    go_wp2_with fail
    generalize w.alloc (.cells #[.int .u32 (a : Int), .int .i64 k] 24) = W at hb c0 c1 ⊢
    have k0 := cell_regrown c0
    have k1 := cell_regrown c1
    have cF := inRegion (same_below fun w => hf ▸ fits_any k w) W
    have cM := inRegion (same_below (mask_in k hk)) W
    refine wp_region_quiet_below (by kernel_rfl) (by kernel_rfl) ?_
    repeat (first | go_big_quiet_step (first | exact cF _ _ | exact cM _ _) | quiet_step (first | exact cF _ _ | exact cM _ _))
    refine wpQuiet_nil ?_
    intro _ hw'
    obtain ⟨⟨dq, osq⟩, hw''⟩ := hw'
    subst hw''
    go_wp2_with fail
    go_ret
    exact ⟨ret_bool hg.out, Below.tr hb (below_regrown W dq osq)⟩

/-- The reference's Good. -/
theorem refGood_any (a : Nat) (n : Int) (ha : a < 4294967296) (w : World) :
    Calls Tryd.prog 17 #[.agg #[.int .u32 a, .int .i64 n]] w fun e w' => e = .returned (.bool (goodB a n)) ∧ Below w.heap.size w w' := by
  have hb := below_new w (.cells #[.int .u32 (a : Int), .int .i64 n] 24)
  obtain ⟨c0, c1⟩ := cells_two w (.int .u32 (a : Int)) (.int .i64 n) 24
  by_cases h0 : 0 ≤ n
  · by_cases h1 : n ≤ 32
    · obtain ⟨k, rfl⟩ := Int.eq_ofNat_of_zero_le h0
      have hk : k ≤ 32 := by omega
      have hg : ((cutN a k : Int) == (a : Int)) = goodB a (k : Int) := by
        rw [goodB_in hk, Bool.eq_iff_iff, beq_iff_eq, decide_eq_true_iff]; omega
      have HG := Go.Lib.hid hg
      clear hg
      go_enter Tryd.func17, Tryd.ntmps17
      go_wp2_with fail
      generalize w.alloc (.cells #[.int .u32 (a : Int), .int .i64 k] 24) = W at hb c0 c1 ⊢
      have k0 := cell_regrown c0
      have k1 := cell_regrown c1
      have cC := inRegion (same_below (refCut_in a k ha hk)) W
      refine wp_region_quiet_below (by kernel_rfl) (by kernel_rfl) ?_
      repeat (first | go_big_quiet_step (exact cC _ _) | quiet_step (exact cC _ _))
      refine wpQuiet_nil ?_
      intro _ hw'
      obtain ⟨⟨dq, osq⟩, hw''⟩ := hw'
      subst hw''
      go_wp2_with fail
      go_ret
      exact ⟨ret_bool HG.out, Below.tr hb (below_regrown W dq osq)⟩
    · have hd : decide (n ≤ 32) = false := decide_eq_false h1
      rw [goodB_no (fitsB_no (by omega))]
      go_enter Tryd.func17, Tryd.ntmps17
      go_wp2_with fail
      generalize w.alloc (.cells #[.int .u32 (a : Int), .int .i64 n] 24) = W at hb c0 c1 ⊢
      have k0 := cell_regrown c0
      have k1 := cell_regrown c1
      refine wp_region_quiet_below (by kernel_rfl) (by kernel_rfl) ?_
      repeat (first | go_big_quiet_step (fail) | quiet_step (fail))
      refine wpQuiet_nil ?_
      intro _ hw'
      obtain ⟨⟨dq, osq⟩, hw''⟩ := hw'
      subst hw''
      go_wp2_with fail
      go_ret
      exact ⟨rfl, Below.tr hb (below_regrown W dq osq)⟩
  · have hd : decide (0 ≤ n) = false := decide_eq_false h0
    rw [goodB_no (fitsB_no (by omega))]
    go_enter Tryd.func17, Tryd.ntmps17
    go_wp2_with fail
    generalize w.alloc (.cells #[.int .u32 (a : Int), .int .i64 n] 24) = W at hb c0 c1 ⊢
    have k0 := cell_regrown c0
    have k1 := cell_regrown c1
    refine wp_region_quiet_below (by kernel_rfl) (by kernel_rfl) ?_
    repeat (first | go_big_quiet_step (fail) | quiet_step (fail))
    refine wpQuiet_nil ?_
    intro _ hw'
    obtain ⟨⟨dq, osq⟩, hw''⟩ := hw'
    subst hw''
    go_wp2_with fail
    go_ret
    exact ⟨rfl, Below.tr hb (below_regrown W dq osq)⟩

/-- Does an address begin with a prefix? -/
def hasB (pa : Nat) (pn : Int) (a : Nat) : Bool := goodB pa pn && decide (cutN a pn.toNat = pa)

theorem has_any (pa : Nat) (pn : Int) (a : Nat) (hpa : pa < 4294967296) (ha : a < 4294967296) (w : World) :
    Calls Tryd.prog 32 #[.agg #[.int .u32 pa, .int .i64 pn], .int .u32 a] w fun e w' => e = .returned (.bool (hasB pa pn a)) ∧ Below w.heap.size w w' := by
  have hb := below_new w (.cells #[.int .u32 (pa : Int), .int .i64 pn] 24)
  obtain ⟨c0, c1⟩ := cells_two w (.int .u32 (pa : Int)) (.int .i64 pn) 24
  cases hg : goodB pa pn
  · have e : hasB pa pn a = false := by unfold hasB; rw [hg]; rfl
    rw [e]
    go_enter Tryd.func32, Tryd.ntmps32
    go_wp2_with fail
    generalize w.alloc (.cells #[.int .u32 (pa : Int), .int .i64 pn] 24) = W at hb c0 c1 ⊢
    have k0 := cell_regrown c0
    have k1 := cell_regrown c1
    have cG := inRegion (hg ▸ good_any pa pn hpa) W
    refine wp_region_quiet_below (by kernel_rfl) (by kernel_rfl) ?_
    repeat (first | go_big_quiet_step (exact cG _ _) | quiet_step (exact cG _ _))
    refine wpQuiet_nil ?_
    intro _ hw'
    obtain ⟨⟨dq, osq⟩, hw''⟩ := hw'
    subst hw''
    go_wp2_with fail
    go_ret
    exact ⟨rfl, Below.tr hb (below_regrown W dq osq)⟩
  · have hl := goodB_len hg
    obtain ⟨k, rfl⟩ := Int.eq_ofNat_of_zero_le hl.1
    have hk : k ≤ 32 := by omega
    have hm := bits_and_mask a k ha hk
    have he : ((cutN a k : Int) == (pa : Int)) = hasB pa (k : Int) a := by
      unfold hasB; rw [hg, Bool.true_and, Bool.eq_iff_iff, beq_iff_eq, decide_eq_true_iff]; simp; omega
    have HE := Go.Lib.hid he
    clear he
    go_enter Tryd.func32, Tryd.ntmps32
    go_wp2_with fail
    generalize w.alloc (.cells #[.int .u32 (pa : Int), .int .i64 k] 24) = W at hb c0 c1 ⊢
    have k0 := cell_regrown c0
    have k1 := cell_regrown c1
    have cG := inRegion (hg ▸ good_any pa k hpa) W
    have cM := inRegion (same_below (mask_in k hk)) W
    refine wp_region_quiet_below (by kernel_rfl) (by kernel_rfl) ?_
    repeat (first | go_big_quiet_step (first | exact cG _ _ | exact cM _ _) | quiet_step (first | exact cG _ _ | exact cM _ _))
    refine wpQuiet_nil ?_
    intro _ hw'
    obtain ⟨⟨dq, osq⟩, hw''⟩ := hw'
    subst hw''
    go_wp2_with fail
    go_ret
    exact ⟨ret_bool HE.out, Below.tr hb (below_regrown W dq osq)⟩

end Go.Proofs.YtgjdpmpbldofpaaDoor.Pfx
