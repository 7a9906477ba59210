/- The contracts of Cmp, Make, Halves. -/
import Derived.Test.YtgjdpmpbldofpaaDoorPfxWalkC
namespace Go.Proofs.YtgjdpmpbldofpaaDoor.Pfx
open Go.RowKit Go.Sort

/-- Which of two numbers is less. -/
def cmpI (x y : Int) : Int := if x < y then -1 else if y < x then 1 else 0
theorem cmpI_lt {x y : Int} (h : x < y) : cmpI x y = -1 := by unfold cmpI; rw [if_pos h]
theorem cmpI_gt {x y : Int} (h : y < x) : cmpI x y = 1 := by unfold cmpI; rw [if_neg (by omega), if_pos h]
theorem cmpI_eq (x : Int) : cmpI x x = 0 := by unfold cmpI; rw [if_neg (by omega), if_neg (by omega)]
theorem cmpu_any (x y : Int) (w : World) : Calls Tryd.prog 33 #[.int .u32 x, .int .u32 y] w fun e w' => e = .returned (.int .i64 (cmpI x y)) ∧ w = w' := by
  rcases Int.lt_trichotomy x y with h | h | h
  · rw [cmpI_lt h]
    go_enter Tryd.func33, Tryd.ntmps33
    go_wp2
    go_ret
    exact ⟨rfl, rfl⟩
  · subst h
    rw [cmpI_eq]
    go_enter Tryd.func33, Tryd.ntmps33
    go_wp2
    go_ret
    exact ⟨rfl, rfl⟩
  · rw [cmpI_gt h]
    go_enter Tryd.func33, Tryd.ntmps33
    go_wp2
    go_ret
    exact ⟨rfl, rfl⟩
theorem cmpi_any (x y : Int) (w : World) : Calls Tryd.prog 34 #[.int .i64 x, .int .i64 y] w fun e w' => e = .returned (.int .i64 (cmpI x y)) ∧ w = w' := by
  rcases Int.lt_trichotomy x y with h | h | h
  · rw [cmpI_lt h]
    go_enter Tryd.func34, Tryd.ntmps34
    go_wp2
    go_ret
    exact ⟨rfl, rfl⟩
  · subst h
    rw [cmpI_eq]
    go_enter Tryd.func34, Tryd.ntmps34
    go_wp2
    go_ret
    exact ⟨rfl, rfl⟩
  · rw [cmpI_gt h]
    go_enter Tryd.func34, Tryd.ntmps34
    go_wp2
    go_ret
    exact ⟨rfl, rfl⟩

theorem cmp_bad (pa : Nat) (pn : Int) (qa : Nat) (qn : Int) (hpa : pa < 4294967296) (hqa : qa < 4294967296) (h : (goodB pa pn && goodB qa qn) = false) (w : World) :
    Calls Tryd.prog 24 #[.agg #[.int .u32 pa, .int .i64 pn], .agg #[.int .u32 qa, .int .i64 qn]] w fun e w' => e = .returned (.int .i64 0) ∧ Below w.heap.size w w' := by
  have hb := below_new2 w (.cells #[.int .u32 (pa : Int), .int .i64 pn] 24) (.cells #[.int .u32 (qa : Int), .int .i64 qn] 24)
  obtain ⟨c0, c1, c2, c3⟩ := cells_four w (.int .u32 (pa : Int)) (.int .i64 pn) (.int .u32 (qa : Int)) (.int .i64 qn) 24
  cases hp : goodB pa pn
  · clear h
    go_enter Tryd.func24, Tryd.ntmps24
    go_wp2_with fail
    generalize (w.alloc (.cells #[.int .u32 (pa : Int), .int .i64 pn] 24)).alloc (.cells #[.int .u32 (qa : Int), .int .i64 qn] 24) = W at hb c0 c1 c2 c3 ⊢
    go_wp2_with (go_at_call 26; with_reducible refine (good_any pa pn hpa _).mono ?_; rintro e w1 ⟨rfl, hb1⟩; have d0 := keeps hb1 c0; have d1 := keeps hb1 c1; have d2 := keeps hb1 c2; have d3 := keeps hb1 c3)
    go_ret
    exact ⟨rfl, Below.tr hb hb1⟩
  · have hq : goodB qa qn = false := by rwa [hp] at h
    clear h
    go_enter Tryd.func24, Tryd.ntmps24
    go_wp2_with fail
    generalize (w.alloc (.cells #[.int .u32 (pa : Int), .int .i64 pn] 24)).alloc (.cells #[.int .u32 (qa : Int), .int .i64 qn] 24) = W at hb c0 c1 c2 c3 ⊢
    go_wp2_with (first | (go_at_call 26; with_reducible refine (good_any pa pn hpa _).mono ?_; rintro e w1 ⟨rfl, hb1⟩; have d0 := keeps hb1 c0; have d1 := keeps hb1 c1; have d2 := keeps hb1 c2; have d3 := keeps hb1 c3) | (go_at_call 26; with_reducible refine (good_any qa qn hqa _).mono ?_; rintro e w2 ⟨rfl, hb2⟩; have g0 := keeps hb2 d0; have g1 := keeps hb2 d1; have g2 := keeps hb2 d2; have g3 := keeps hb2 d3))
    go_ret
    exact ⟨rfl, Below.tr hb (Below.tr hb1 hb2)⟩
theorem cmp_good (pa : Nat) (pn : Int) (qa : Nat) (qn : Int) (hpa : pa < 4294967296) (hqa : qa < 4294967296) (hp : goodB pa pn = true) (hq : goodB qa qn = true) (w : World) :
    Calls Tryd.prog 24 #[.agg #[.int .u32 pa, .int .i64 pn], .agg #[.int .u32 qa, .int .i64 qn]] w fun e w' => e = .returned (.int .i64 (cmpP pa pn qa qn)) ∧ Below w.heap.size w w' := by
  have hb := below_new2 w (.cells #[.int .u32 (pa : Int), .int .i64 pn] 24) (.cells #[.int .u32 (qa : Int), .int .i64 qn] 24)
  obtain ⟨c0, c1, c2, c3⟩ := cells_four w (.int .u32 (pa : Int)) (.int .i64 pn) (.int .u32 (qa : Int)) (.int .i64 qn) 24
  rcases Nat.lt_trichotomy pa qa with h | h | h
  · have e : cmpP pa pn qa qn = -1 := by unfold cmpP; rw [if_pos (Or.inl h)]
    have hc := cmpI_lt (Int.ofNat_lt.2 h)
    have hne : ¬ ((pa : Int) = (qa : Int)) := by omega
    rw [e]
    go_enter Tryd.func24, Tryd.ntmps24
    go_wp2_with fail
    generalize (w.alloc (.cells #[.int .u32 (pa : Int), .int .i64 pn] 24)).alloc (.cells #[.int .u32 (qa : Int), .int .i64 qn] 24) = W at hb c0 c1 c2 c3 ⊢
    go_wp2_with (first | (go_at_call 26; with_reducible refine (good_any pa pn hpa _).mono ?_; rintro e w1 ⟨rfl, hb1⟩; have d0 := keeps hb1 c0; have d1 := keeps hb1 c1; have d2 := keeps hb1 c2; have d3 := keeps hb1 c3) | (go_at_call 26; with_reducible refine (good_any qa qn hqa _).mono ?_; rintro e w2 ⟨rfl, hb2⟩; have g0 := keeps hb2 d0; have g1 := keeps hb2 d1; have g2 := keeps hb2 d2; have g3 := keeps hb2 d3) | (go_at_call 33; refine (cmpu_any _ _ _).mono ?_; rintro e w3 ⟨rfl, rfl⟩) | (go_at_call 34; refine (cmpi_any _ _ _).mono ?_; rintro e w3 ⟨rfl, rfl⟩))
    go_ret
    exact ⟨rfl, Below.tr hb (Below.tr hb1 hb2)⟩
  · subst h
    rcases Int.lt_trichotomy pn qn with h | h | h
    · have e : cmpP pa pn pa qn = -1 := by unfold cmpP; rw [if_pos (Or.inr ⟨rfl, h⟩)]
      have hc := cmpI_lt h
      rw [e]
      go_enter Tryd.func24, Tryd.ntmps24
      go_wp2_with fail
      generalize (w.alloc (.cells #[.int .u32 (pa : Int), .int .i64 pn] 24)).alloc (.cells #[.int .u32 (pa : Int), .int .i64 qn] 24) = W at hb c0 c1 c2 c3 ⊢
      go_wp2_with (first | (go_at_call 26; with_reducible refine (good_any pa pn hpa _).mono ?_; rintro e w1 ⟨rfl, hb1⟩; have d0 := keeps hb1 c0; have d1 := keeps hb1 c1; have d2 := keeps hb1 c2; have d3 := keeps hb1 c3) | (go_at_call 26; with_reducible refine (good_any pa qn hpa _).mono ?_; rintro e w2 ⟨rfl, hb2⟩; have g0 := keeps hb2 d0; have g1 := keeps hb2 d1; have g2 := keeps hb2 d2; have g3 := keeps hb2 d3) | (go_at_call 33; refine (cmpu_any _ _ _).mono ?_; rintro e w3 ⟨rfl, rfl⟩) | (go_at_call 34; refine (cmpi_any _ _ _).mono ?_; rintro e w3 ⟨rfl, rfl⟩))
      go_ret
      exact ⟨rfl, Below.tr hb (Below.tr hb1 hb2)⟩
    · subst h
      have hc := cmpI_eq pn
      have e : cmpP pa pn pa pn = 0 := by unfold cmpP; rw [if_neg (by omega), if_pos ⟨rfl, rfl⟩]
      rw [e]
      go_enter Tryd.func24, Tryd.ntmps24
      go_wp2_with fail
      generalize (w.alloc (.cells #[.int .u32 (pa : Int), .int .i64 pn] 24)).alloc (.cells #[.int .u32 (pa : Int), .int .i64 pn] 24) = W at hb c0 c1 c2 c3 ⊢
      go_wp2_with (first | (go_at_call 26; with_reducible refine (good_any pa pn hpa _).mono ?_; rintro e w1 ⟨rfl, hb1⟩; have d0 := keeps hb1 c0; have d1 := keeps hb1 c1; have d2 := keeps hb1 c2; have d3 := keeps hb1 c3) | (go_at_call 26; with_reducible refine (good_any pa pn hpa _).mono ?_; rintro e w2 ⟨rfl, hb2⟩; have g0 := keeps hb2 d0; have g1 := keeps hb2 d1; have g2 := keeps hb2 d2; have g3 := keeps hb2 d3) | (go_at_call 33; refine (cmpu_any _ _ _).mono ?_; rintro e w3 ⟨rfl, rfl⟩) | (go_at_call 34; refine (cmpi_any _ _ _).mono ?_; rintro e w3 ⟨rfl, rfl⟩))
      go_ret
      exact ⟨rfl, Below.tr hb (Below.tr hb1 hb2)⟩
    · have hc := cmpI_gt h
      have e : cmpP pa pn pa qn = 1 := by unfold cmpP; rw [if_neg (by omega), if_neg (by omega)]
      rw [e]
      go_enter Tryd.func24, Tryd.ntmps24
      go_wp2_with fail
      generalize (w.alloc (.cells #[.int .u32 (pa : Int), .int .i64 pn] 24)).alloc (.cells #[.int .u32 (pa : Int), .int .i64 qn] 24) = W at hb c0 c1 c2 c3 ⊢
      go_wp2_with (first | (go_at_call 26; with_reducible refine (good_any pa pn hpa _).mono ?_; rintro e w1 ⟨rfl, hb1⟩; have d0 := keeps hb1 c0; have d1 := keeps hb1 c1; have d2 := keeps hb1 c2; have d3 := keeps hb1 c3) | (go_at_call 26; with_reducible refine (good_any pa qn hpa _).mono ?_; rintro e w2 ⟨rfl, hb2⟩; have g0 := keeps hb2 d0; have g1 := keeps hb2 d1; have g2 := keeps hb2 d2; have g3 := keeps hb2 d3) | (go_at_call 33; refine (cmpu_any _ _ _).mono ?_; rintro e w3 ⟨rfl, rfl⟩) | (go_at_call 34; refine (cmpi_any _ _ _).mono ?_; rintro e w3 ⟨rfl, rfl⟩))
      go_ret
      exact ⟨rfl, Below.tr hb (Below.tr hb1 hb2)⟩
  · have hc := cmpI_gt (Int.ofNat_lt.2 h)
    have e : cmpP pa pn qa qn = 1 := by unfold cmpP; rw [if_neg (by omega), if_neg (by omega)]
    have hne : ¬ ((pa : Int) = (qa : Int)) := by omega
    rw [e]
    go_enter Tryd.func24, Tryd.ntmps24
    go_wp2_with fail
    generalize (w.alloc (.cells #[.int .u32 (pa : Int), .int .i64 pn] 24)).alloc (.cells #[.int .u32 (qa : Int), .int .i64 qn] 24) = W at hb c0 c1 c2 c3 ⊢
    go_wp2_with (first | (go_at_call 26; with_reducible refine (good_any pa pn hpa _).mono ?_; rintro e w1 ⟨rfl, hb1⟩; have d0 := keeps hb1 c0; have d1 := keeps hb1 c1; have d2 := keeps hb1 c2; have d3 := keeps hb1 c3) | (go_at_call 26; with_reducible refine (good_any qa qn hqa _).mono ?_; rintro e w2 ⟨rfl, hb2⟩; have g0 := keeps hb2 d0; have g1 := keeps hb2 d1; have g2 := keeps hb2 d2; have g3 := keeps hb2 d3) | (go_at_call 33; refine (cmpu_any _ _ _).mono ?_; rintro e w3 ⟨rfl, rfl⟩) | (go_at_call 34; refine (cmpi_any _ _ _).mono ?_; rintro e w3 ⟨rfl, rfl⟩))
    go_ret
    exact ⟨rfl, Below.tr hb (Below.tr hb1 hb2)⟩


end Go.Proofs.YtgjdpmpbldofpaaDoor.Pfx
