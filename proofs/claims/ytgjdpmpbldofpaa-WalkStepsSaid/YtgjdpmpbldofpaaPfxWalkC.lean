/- The contracts of Covers, Within, Cmp, Make, and of the reference's Covers and Cmp. -/
import Derived.Test.YtgjdpmpbldofpaaPfxWalkB
namespace Go.Proofs.Ytgjdpmpbldofpaa.Pfx
open Go.RowKit Go.Sort

/-- Four cells of two new blocks. -/
theorem cells_four (w : World) (x y z u : Value) (t : TypeId) :
    ((w.alloc (.cells #[x, y] t)).alloc (.cells #[z, u] t)).cell? ⟨w.heap.size, 0, none⟩ = some x ∧ ((w.alloc (.cells #[x, y] t)).alloc (.cells #[z, u] t)).cell? ⟨w.heap.size, 1, none⟩ = some y ∧
    ((w.alloc (.cells #[x, y] t)).alloc (.cells #[z, u] t)).cell? ⟨w.heap.size + 1, 0, none⟩ = some z ∧ ((w.alloc (.cells #[x, y] t)).alloc (.cells #[z, u] t)).cell? ⟨w.heap.size + 1, 1, none⟩ = some u := by
  refine ⟨?_, ?_, ?_, ?_⟩ <;> simp [go_sem]
theorem below_new2 (w : World) (o o' : Obj) : Below w.heap.size w ((w.alloc o).alloc o') := Below.tr (below_new _ _) (below_new _ _)

def coversB (pa : Nat) (pn : Int) (qa : Nat) (qn : Int) : Bool := goodB qa qn && decide (pn ≤ qn) && hasB pa pn qa

theorem covers_any (pa : Nat) (pn : Int) (qa : Nat) (qn : Int) (hpa : pa < 4294967296) (hqa : qa < 4294967296) (w : World) :
    Calls Try.prog 25 #[.agg #[.int .u32 pa, .int .i64 pn], .agg #[.int .u32 qa, .int .i64 qn]] w fun e w' => e = .returned (.bool (coversB pa pn qa qn)) ∧ Below w.heap.size w w' := by
  have hb := below_new2 w (.cells #[.int .u32 (pa : Int), .int .i64 pn] 35) (.cells #[.int .u32 (qa : Int), .int .i64 qn] 35)
  obtain ⟨c0, c1, c2, c3⟩ := cells_four w (.int .u32 (pa : Int)) (.int .i64 pn) (.int .u32 (qa : Int)) (.int .i64 qn) 35
  cases hq : goodB qa qn
  · have e : coversB pa pn qa qn = false := by unfold coversB; rw [hq]; rfl
    rw [e]
    go_enter Try.func25, Try.ntmps25
    go_wp2_with fail
    generalize (w.alloc (.cells #[.int .u32 (pa : Int), .int .i64 pn] 35)).alloc (.cells #[.int .u32 (qa : Int), .int .i64 qn] 35) = W at hb c0 c1 c2 c3 ⊢
    go_wp2_with (go_at_call 26; refine (good_any _ _ hqa _).mono ?_; rintro e w1 ⟨rfl, hb1⟩)
    go_ret
    exact ⟨ret_bool (by simp), Below.tr hb hb1⟩
  · by_cases hle : pn ≤ qn
    · have e : coversB pa pn qa qn = hasB pa pn qa := by unfold coversB; rw [hq, decide_eq_true hle]; rfl
      rw [e]
      go_enter Try.func25, Try.ntmps25
      go_wp2_with fail
      generalize (w.alloc (.cells #[.int .u32 (pa : Int), .int .i64 pn] 35)).alloc (.cells #[.int .u32 (qa : Int), .int .i64 qn] 35) = W at hb c0 c1 c2 c3 ⊢
      go_wp2_with (first | (go_at_call 26; refine (good_any _ _ hqa _).mono ?_; rintro e w1 ⟨rfl, hb1⟩; have d0 := keeps hb1 c0; have d1 := keeps hb1 c1; have d2 := keeps hb1 c2; have d3 := keeps hb1 c3) | (go_at_call 37; refine (has_any _ _ _ hpa hqa _).mono ?_; rintro e w2 ⟨rfl, hb2⟩))
      go_ret
      exact ⟨ret_bool (by simp), Below.tr hb (Below.tr hb1 hb2)⟩
    · have e : coversB pa pn qa qn = false := by unfold coversB; rw [hq, decide_eq_false hle]; rfl
      rw [e]
      go_enter Try.func25, Try.ntmps25
      go_wp2_with fail
      generalize (w.alloc (.cells #[.int .u32 (pa : Int), .int .i64 pn] 35)).alloc (.cells #[.int .u32 (qa : Int), .int .i64 qn] 35) = W at hb c0 c1 c2 c3 ⊢
      go_wp2_with (first | (go_at_call 26; refine (good_any _ _ hqa _).mono ?_; rintro e w1 ⟨rfl, hb1⟩; have d0 := keeps hb1 c0; have d1 := keeps hb1 c1; have d2 := keeps hb1 c2; have d3 := keeps hb1 c3) | (go_at_call 37; refine (has_any _ _ _ hpa hqa _).mono ?_; rintro e w2 ⟨rfl, hb2⟩))
      go_ret
      exact ⟨ret_bool (by simp), Below.tr hb hb1⟩

/-- The reference's Covers. -/
theorem refCovers_any (pa : Nat) (pn : Int) (qa : Nat) (qn : Int) (hpa : pa < 4294967296) (hqa : qa < 4294967296) (w : World) :
    Calls Try.prog 13 #[.agg #[.int .u32 pa, .int .i64 pn], .agg #[.int .u32 qa, .int .i64 qn]] w fun e w' => e = .returned (.bool (coversB pa pn qa qn)) ∧ Below w.heap.size w w' := by
  have hb := below_new2 w (.cells #[.int .u32 (pa : Int), .int .i64 pn] 35) (.cells #[.int .u32 (qa : Int), .int .i64 qn] 35)
  obtain ⟨c0, c1, c2, c3⟩ := cells_four w (.int .u32 (pa : Int)) (.int .i64 pn) (.int .u32 (qa : Int)) (.int .i64 qn) 35
  cases hp : goodB pa pn
  · have e : coversB pa pn qa qn = false := by unfold coversB hasB; rw [hp]; simp
    rw [e]
    go_enter Try.func13, Try.ntmps13
    go_wp2_with fail
    generalize (w.alloc (.cells #[.int .u32 (pa : Int), .int .i64 pn] 35)).alloc (.cells #[.int .u32 (qa : Int), .int .i64 qn] 35) = W at hb c0 c1 c2 c3 ⊢
    go_wp2_with (go_at_call 17; refine (refGood_any _ _ hpa _).mono ?_; rintro e w1 ⟨rfl, hb1⟩)
    go_ret
    exact ⟨rfl, Below.tr hb hb1⟩
  cases hq : goodB qa qn
  · have e : coversB pa pn qa qn = false := by unfold coversB; rw [hq]; rfl
    rw [e]
    go_enter Try.func13, Try.ntmps13
    go_wp2_with fail
    generalize (w.alloc (.cells #[.int .u32 (pa : Int), .int .i64 pn] 35)).alloc (.cells #[.int .u32 (qa : Int), .int .i64 qn] 35) = W at hb c0 c1 c2 c3 ⊢
    go_wp2_with (first | (go_at_call 17; with_reducible refine (refGood_any pa pn hpa _).mono ?_; rintro e w1 ⟨rfl, hb1⟩; have d0 := keeps hb1 c0; have d1 := keeps hb1 c1; have d2 := keeps hb1 c2; have d3 := keeps hb1 c3) | (go_at_call 17; with_reducible refine (refGood_any qa qn hqa _).mono ?_; rintro e w2 ⟨rfl, hb2⟩))
    go_ret
    exact ⟨rfl, Below.tr hb (Below.tr hb1 hb2)⟩
  by_cases hle : pn ≤ qn
  · have hl := goodB_len hp
    obtain ⟨k, rfl⟩ := Int.eq_ofNat_of_zero_le hl.1
    have hk : k ≤ 32 := by omega
    have he : ((cutN qa k : Int) == (pa : Int)) = coversB pa (k : Int) qa qn := by
      unfold coversB hasB; rw [hp, hq, decide_eq_true hle, Bool.true_and, Bool.true_and, Bool.true_and, Bool.eq_iff_iff, beq_iff_eq, decide_eq_true_iff]; simp; omega
    have HE := Go.Lib.hid he
    clear he
    go_enter Try.func13, Try.ntmps13
    go_wp2_with fail
    generalize (w.alloc (.cells #[.int .u32 (pa : Int), .int .i64 k] 35)).alloc (.cells #[.int .u32 (qa : Int), .int .i64 qn] 35) = W at hb c0 c1 c2 c3 ⊢
    go_wp2_with (first | (go_at_call 17; with_reducible refine (refGood_any pa k hpa _).mono ?_; rintro e w1 ⟨rfl, hb1⟩; have d0 := keeps hb1 c0; have d1 := keeps hb1 c1; have d2 := keeps hb1 c2; have d3 := keeps hb1 c3) | (go_at_call 17; with_reducible refine (refGood_any qa qn hqa _).mono ?_; rintro e w2 ⟨rfl, hb2⟩; have g0 := keeps hb2 d0; have g1 := keeps hb2 d1; have g2 := keeps hb2 d2; have g3 := keeps hb2 d3))
    have k0 := cell_regrown g0
    have k1 := cell_regrown g1
    have k2 := cell_regrown g2
    have k3 := cell_regrown g3
    have cC := inRegion (same_below (refCut_in qa k hqa hk)) w2
    refine wp_region_quiet_below (by kernel_rfl) (by kernel_rfl) ?_
    repeat (first | go_big_quiet_step (exact cC _ _) | quiet_step (exact cC _ _))
    refine wpQuiet_nil ?_
    intro _ hw'
    obtain ⟨⟨dq, osq⟩, hw''⟩ := hw'
    subst hw''
    go_wp2_with fail
    go_ret
    exact ⟨ret_bool HE.out, Below.tr hb (Below.tr hb1 (Below.tr hb2 (below_regrown w2 dq osq)))⟩
  · have e : coversB pa pn qa qn = false := by unfold coversB; rw [decide_eq_false hle]; simp
    rw [e]
    go_enter Try.func13, Try.ntmps13
    go_wp2_with fail
    generalize (w.alloc (.cells #[.int .u32 (pa : Int), .int .i64 pn] 35)).alloc (.cells #[.int .u32 (qa : Int), .int .i64 qn] 35) = W at hb c0 c1 c2 c3 ⊢
    go_wp2_with (first | (go_at_call 17; with_reducible refine (refGood_any pa pn hpa _).mono ?_; rintro e w1 ⟨rfl, hb1⟩; have d0 := keeps hb1 c0; have d1 := keeps hb1 c1; have d2 := keeps hb1 c2; have d3 := keeps hb1 c3) | (go_at_call 17; with_reducible refine (refGood_any qa qn hqa _).mono ?_; rintro e w2 ⟨rfl, hb2⟩; have g0 := keeps hb2 d0; have g1 := keeps hb2 d1; have g2 := keeps hb2 d2; have g3 := keeps hb2 d3))
    go_ret
    exact ⟨rfl, Below.tr hb (Below.tr hb1 hb2)⟩

/-- Is p another prefix that q covers? -/
def withinB (pa : Nat) (pn : Int) (qa : Nat) (qn : Int) : Bool := !decide (pa = qa ∧ pn = qn) && coversB qa qn pa pn

/-- The order of two prefixes: by address, then by length. -/
def cmpP (pa : Nat) (pn : Int) (qa : Nat) (qn : Int) : Int := if pa < qa ∨ (pa = qa ∧ pn < qn) then -1 else if pa = qa ∧ pn = qn then 0 else 1
theorem refCmp_any (pa : Nat) (pn : Int) (qa : Nat) (qn : Int) (w : World) :
    Calls Try.prog 18 #[.agg #[.int .u32 pa, .int .i64 pn], .agg #[.int .u32 qa, .int .i64 qn]] w fun e w' => e = .returned (.int .i64 (cmpP pa pn qa qn)) ∧ Below w.heap.size w w' := by
  have hb := below_new2 w (.cells #[.int .u32 (pa : Int), .int .i64 pn] 35) (.cells #[.int .u32 (qa : Int), .int .i64 qn] 35)
  rcases Nat.lt_trichotomy pa qa with h | h | h
  · have e : cmpP pa pn qa qn = -1 := by unfold cmpP; rw [if_pos (Or.inl h)]
    rw [e]
    go_enter Try.func18, Try.ntmps18
    go_wp2_with fail
    go_ret
    exact ⟨rfl, hb⟩
  · subst h
    rcases Int.lt_trichotomy pn qn with h | h | h
    · have e : cmpP pa pn pa qn = -1 := by unfold cmpP; rw [if_pos (Or.inr ⟨rfl, h⟩)]
      rw [e]
      go_enter Try.func18, Try.ntmps18
      go_wp2_with fail
      go_ret
      exact ⟨rfl, hb⟩
    · subst h
      have e : cmpP pa pn pa pn = 0 := by unfold cmpP; rw [if_neg (by omega), if_pos ⟨rfl, rfl⟩]
      rw [e]
      go_enter Try.func18, Try.ntmps18
      go_wp2_with fail
      go_ret
      exact ⟨rfl, hb⟩
    · have e : cmpP pa pn pa qn = 1 := by unfold cmpP; rw [if_neg (by omega), if_neg (by omega)]
      have hne : ¬ pn = qn := by omega
      rw [e]
      go_enter Try.func18, Try.ntmps18
      go_wp2_with fail
      go_ret
      exact ⟨rfl, hb⟩
  · have e : cmpP pa pn qa qn = 1 := by unfold cmpP; rw [if_neg (by omega), if_neg (by omega)]
    have hne : ¬ ((pa : Int) = (qa : Int)) := by omega
    rw [e]
    go_enter Try.func18, Try.ntmps18
    go_wp2_with fail
    go_ret
    exact ⟨rfl, hb⟩

end Go.Proofs.Ytgjdpmpbldofpaa.Pfx
