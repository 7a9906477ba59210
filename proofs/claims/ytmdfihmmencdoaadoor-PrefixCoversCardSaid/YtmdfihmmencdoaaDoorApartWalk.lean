/- PrefixApart: the law's walk. Of two prefixes one covers the other, or no address lies in both; and what covers comes ahead. -/
import Derived.Test.YtmdfihmmencdoaaDoorPfxLives
namespace Go.Proofs.YtmdfihmmencdoaaDoor.Pfx
open Go.RowKit Go.Sort

theorem coversB_parts {pa qa : Nat} {pn qn : Int} (h : coversB pa pn qa qn = true) : goodB pa pn = true ∧ goodB qa qn = true ∧ pn ≤ qn ∧ cutN qa pn.toNat = pa := by
  unfold coversB hasB at h
  simp only [Bool.and_eq_true, decide_eq_true_eq] at h
  exact ⟨h.2.1, h.1.1, h.1.2, h.2.2⟩
theorem coversB_mk {pa qa : Nat} {pn qn : Int} (hp : goodB pa pn = true) (hq : goodB qa qn = true) (hl : pn ≤ qn) (hc : cutN qa pn.toNat = pa) : coversB pa pn qa qn = true := by
  unfold coversB hasB
  simp [hp, hq, hl, hc]
theorem hasB_parts {pa a : Nat} {pn : Int} (h : hasB pa pn a = true) : goodB pa pn = true ∧ cutN a pn.toNat = pa := by
  unfold hasB at h
  simpa only [Bool.and_eq_true, decide_eq_true_eq] using h

theorem covers_first {pa qa : Nat} {pn qn : Int} (h : coversB pa pn qa qn = true) (hne : ¬ (pa = qa ∧ pn = qn)) : cmpP pa pn qa qn = -1 := by
  obtain ⟨_, _, hl, hc⟩ := coversB_parts h
  have h1 := cutN_le qa pn.toNat
  unfold cmpP
  rw [if_pos]
  by_cases e : pa = qa
  · right; exact ⟨e, by omega⟩
  · left; omega

theorem cut_less {a k n : Nat} (h : k ≤ n) (hn : n ≤ 32) : cutN (cutN a n) k = cutN a k := by
  apply Nat.eq_of_testBit_eq
  intro i
  rw [testBit_cut, testBit_cut, testBit_cut]
  by_cases hi : 32 - k ≤ i
  · have : 32 - n ≤ i := by omega
    simp [hi, this]
  · simp [hi]

theorem apart_math {pa qa a : Nat} {pn qn : Int} (h1 : coversB pa pn qa qn = false) (h2 : coversB qa qn pa pn = false) (hp : hasB pa pn a = true) : hasB qa qn a = false := by
  cases hq : hasB qa qn a
  · rfl
  · exfalso
    obtain ⟨gp, cp⟩ := hasB_parts hp
    obtain ⟨gq, cq⟩ := hasB_parts hq
    have lp := goodB_len gp
    have lq := goodB_len gq
    by_cases hl : pn ≤ qn
    · have := coversB_mk gp gq hl (by rw [← cq, cut_less (by omega) (by omega)]; exact cp)
      rw [this] at h1; cases h1
    · have := coversB_mk gq gp (by omega) (by rw [← cp, cut_less (by omega) (by omega)]; exact cq)
      rw [this] at h2; cases h2

theorem apart_walk (pa : Nat) (pn : Int) (qa : Nat) (qn : Int) (a : Nat) (hpa : pa < 4294967296) (hqa : qa < 4294967296) (ha : a < 4294967296) (w : World) :
    Calls Tryd.prog 7 #[.agg #[.int .u32 pa, .int .i64 pn], .agg #[.int .u32 qa, .int .i64 qn], .int .u32 a] w fun e w' => e = .returned (.bool true) ∧ Below w.heap.size w w' := by
  have hb := below_new2 w (.cells #[.int .u32 (pa : Int), .int .i64 pn] 24) (.cells #[.int .u32 (qa : Int), .int .i64 qn] 24)
  obtain ⟨c0, c1, c2, c3⟩ := cells_four w (.int .u32 (pa : Int)) (.int .i64 pn) (.int .u32 (qa : Int)) (.int .i64 qn) 24
  cases hc : coversB pa pn qa qn
  · cases hd : coversB qa qn pa pn
    · cases hp : hasB pa pn a
      · go_enter Tryd.func7, Tryd.ntmps7
        go_wp2_with fail
        generalize (w.alloc (.cells #[.int .u32 (pa : Int), .int .i64 pn] 24)).alloc (.cells #[.int .u32 (qa : Int), .int .i64 qn] 24) = W at hb c0 c1 c2 c3 ⊢
        go_wp2_with (first
          | (go_at_call 17; refine (covers_any _ _ _ _ (by assumption) (by assumption) _).mono ?_; rintro e w1 ⟨rfl, hb1⟩; replace c0 := keeps hb1 c0; replace c1 := keeps hb1 c1; replace c2 := keeps hb1 c2; replace c3 := keeps hb1 c3; replace hb := Below.tr hb hb1; clear hb1)
          | (go_at_call 20; refine (has_any _ _ _ (by assumption) (by assumption) _).mono ?_; rintro e w1 ⟨rfl, hb1⟩; replace c0 := keeps hb1 c0; replace c1 := keeps hb1 c1; replace c2 := keeps hb1 c2; replace c3 := keeps hb1 c3; replace hb := Below.tr hb hb1; clear hb1)
          | (go_at_call 15; refine (lives_any _).mono ?_; rintro e w1 ⟨rfl, hb1⟩; replace hb := Below.tr hb hb1; clear hb1))
        go_ret
        exact ⟨rfl, hb⟩
      · have hq := apart_math hc hd hp
        go_enter Tryd.func7, Tryd.ntmps7
        go_wp2_with fail
        generalize (w.alloc (.cells #[.int .u32 (pa : Int), .int .i64 pn] 24)).alloc (.cells #[.int .u32 (qa : Int), .int .i64 qn] 24) = W at hb c0 c1 c2 c3 ⊢
        go_wp2_with (first
          | (go_at_call 17; refine (covers_any _ _ _ _ (by assumption) (by assumption) _).mono ?_; rintro e w1 ⟨rfl, hb1⟩; replace c0 := keeps hb1 c0; replace c1 := keeps hb1 c1; replace c2 := keeps hb1 c2; replace c3 := keeps hb1 c3; replace hb := Below.tr hb hb1; clear hb1)
          | (go_at_call 20; refine (has_any _ _ _ (by assumption) (by assumption) _).mono ?_; rintro e w1 ⟨rfl, hb1⟩; replace c0 := keeps hb1 c0; replace c1 := keeps hb1 c1; replace c2 := keeps hb1 c2; replace c3 := keeps hb1 c3; replace hb := Below.tr hb hb1; clear hb1)
          | (go_at_call 15; refine (lives_any _).mono ?_; rintro e w1 ⟨rfl, hb1⟩; replace hb := Below.tr hb hb1; clear hb1))
        go_ret
        exact ⟨rfl, hb⟩
    · go_enter Tryd.func7, Tryd.ntmps7
      go_wp2_with fail
      generalize (w.alloc (.cells #[.int .u32 (pa : Int), .int .i64 pn] 24)).alloc (.cells #[.int .u32 (qa : Int), .int .i64 qn] 24) = W at hb c0 c1 c2 c3 ⊢
      go_wp2_with (first
        | (go_at_call 17; refine (covers_any _ _ _ _ (by assumption) (by assumption) _).mono ?_; rintro e w1 ⟨rfl, hb1⟩; replace c0 := keeps hb1 c0; replace c1 := keeps hb1 c1; replace c2 := keeps hb1 c2; replace c3 := keeps hb1 c3; replace hb := Below.tr hb hb1; clear hb1)
        | (go_at_call 15; refine (lives_any _).mono ?_; rintro e w1 ⟨rfl, hb1⟩; replace hb := Below.tr hb hb1; clear hb1))
      go_ret
      exact ⟨rfl, hb⟩
  · obtain ⟨gp, gq, hl, _⟩ := coversB_parts hc
    by_cases e1 : pa = qa
    · subst e1
      by_cases e2 : pn = qn
      · subst e2
        clear gp gq hl
        go_enter Tryd.func7, Tryd.ntmps7
        go_wp2_with fail
        generalize (w.alloc (.cells #[.int .u32 (pa : Int), .int .i64 pn] 24)).alloc (.cells #[.int .u32 (pa : Int), .int .i64 pn] 24) = W at hb c0 c1 c2 c3 ⊢
        go_wp2_with (first
          | (go_at_call 17; refine (covers_any _ _ _ _ (by assumption) (by assumption) _).mono ?_; rintro e w1 ⟨rfl, hb1⟩; replace c0 := keeps hb1 c0; replace c1 := keeps hb1 c1; replace c2 := keeps hb1 c2; replace c3 := keeps hb1 c3; replace hb := Below.tr hb hb1; clear hb1)
          | (go_at_call 15; refine (lives_any _).mono ?_; rintro e w1 ⟨rfl, hb1⟩; replace hb := Below.tr hb hb1; clear hb1))
        go_ret
        exact ⟨rfl, hb⟩
      · have hm := covers_first hc (by simp [e2])
        go_enter Tryd.func7, Tryd.ntmps7
        go_wp2_with fail
        generalize (w.alloc (.cells #[.int .u32 (pa : Int), .int .i64 pn] 24)).alloc (.cells #[.int .u32 (pa : Int), .int .i64 qn] 24) = W at hb c0 c1 c2 c3 ⊢
        go_wp2_with (first
          | (go_at_call 17; refine (covers_any _ _ _ _ (by assumption) (by assumption) _).mono ?_; rintro e w1 ⟨rfl, hb1⟩; replace c0 := keeps hb1 c0; replace c1 := keeps hb1 c1; replace c2 := keeps hb1 c2; replace c3 := keeps hb1 c3; replace hb := Below.tr hb hb1; clear hb1)
          | (go_at_call 21; refine (cmp_good _ _ _ _ (by assumption) (by assumption) (by assumption) (by assumption) _).mono ?_; rintro e w1 ⟨rfl, hb1⟩; replace c0 := keeps hb1 c0; replace c1 := keeps hb1 c1; replace c2 := keeps hb1 c2; replace c3 := keeps hb1 c3; replace hb := Below.tr hb hb1; clear hb1)
          | (go_at_call 15; refine (lives_any _).mono ?_; rintro e w1 ⟨rfl, hb1⟩; replace hb := Below.tr hb hb1; clear hb1))
        go_ret
        exact ⟨rfl, hb⟩
    · have hm := covers_first hc (by simp [e1])
      have e2 : ¬ ((pa : Int) = (qa : Int)) := by omega
      go_enter Tryd.func7, Tryd.ntmps7
      go_wp2_with fail
      generalize (w.alloc (.cells #[.int .u32 (pa : Int), .int .i64 pn] 24)).alloc (.cells #[.int .u32 (qa : Int), .int .i64 qn] 24) = W at hb c0 c1 c2 c3 ⊢
      go_wp2_with (first
        | (go_at_call 17; refine (covers_any _ _ _ _ (by assumption) (by assumption) _).mono ?_; rintro e w1 ⟨rfl, hb1⟩; replace c0 := keeps hb1 c0; replace c1 := keeps hb1 c1; replace c2 := keeps hb1 c2; replace c3 := keeps hb1 c3; replace hb := Below.tr hb hb1; clear hb1)
        | (go_at_call 21; refine (cmp_good _ _ _ _ (by assumption) (by assumption) (by assumption) (by assumption) _).mono ?_; rintro e w1 ⟨rfl, hb1⟩; replace c0 := keeps hb1 c0; replace c1 := keeps hb1 c1; replace c2 := keeps hb1 c2; replace c3 := keeps hb1 c3; replace hb := Below.tr hb hb1; clear hb1)
        | (go_at_call 15; refine (lives_any _).mono ?_; rintro e w1 ⟨rfl, hb1⟩; replace hb := Below.tr hb hb1; clear hb1))
      go_ret
      exact ⟨rfl, hb⟩

end Go.Proofs.YtmdfihmmencdoaaDoor.Pfx
