/- prefix.Good and prefix.Cmp, with what they leave in memory: new blocks, draws, and nothing else. -/
import Derived.Test.YtgjdpmpbldofpaaDoorPfxWalkD
import Derived.Sort.Grow
import Derived.BigQuiet
namespace Go.Proofs.YtgjdpmpbldofpaaDoor.Pfx
open Go.RowKit Go.Sort

/-- Blocks were laid, draws made, and nothing else. -/
def Laid (w w' : World) : Prop := ∃ q os, w' = grow (w.drewN q) os
theorem Laid.refl (w : World) : Laid w w := ⟨0, #[], by rw [grow_empty]; rfl⟩
theorem Laid.trans {a b c : World} (h : Laid a b) (k : Laid b c) : Laid a c := by
  obtain ⟨q, os, rfl⟩ := h
  obtain ⟨q2, os2, rfl⟩ := k
  refine ⟨q + q2, os ++ os2, ?_⟩
  simp only [grow, World.drewN, Array.append_assoc, Nat.add_assoc]
theorem Laid.alloc {a b : World} (h : Laid a b) (o : Obj) : Laid a (b.alloc o) := h.trans ⟨0, #[o], by rw [alloc_eq_grow]; rfl⟩
theorem Laid.below {a b : World} (h : Laid a b) : Below a.heap.size a b := by
  obtain ⟨q, os, rfl⟩ := h
  exact ⟨rfl, rfl, rfl, by simp [grow, World.drewN], fun k hk => by simp [grow, World.drewN, Array.getElem?_append, hk]⟩
theorem quiet_same {f : FuncId} {args : Array Value} {w : World} {n : Nat} {v : Value}
    (h : Calls Tryd.prog f args (w.drewN n) fun e w' => e = .returned v ∧ w.drewN n = w') : Calls Tryd.prog f args (w.drewN n) fun e w'' => e = .returned v ∧ ∃ m, w'' = w.drewN m :=
  h.mono fun _ _ ⟨he, hm⟩ => ⟨he, n, hm.symm⟩
theorem good_laid (a : Nat) (n : Int) (ha : a < 4294967296) (w : World) :
    Calls Tryd.prog 26 #[.agg #[.int .u32 a, .int .i64 n]] w fun e w' => e = .returned (.bool (goodB a n)) ∧ Laid w w' := by
  cases hf : fitsB n
  · rw [goodB_no hf]
    have hL := (Laid.refl w).alloc (.cells #[.int .u32 (a : Int), .int .i64 n] 24)
    obtain ⟨c0, c1⟩ := cells_two w (.int .u32 (a : Int)) (.int .i64 n) 24
    go_enter Tryd.func26, Tryd.ntmps26
    go_wp2_with fail
    generalize w.alloc (.cells #[.int .u32 (a : Int), .int .i64 n] 24) = W at hL c0 c1 ⊢
    have cF := fun W => (hf ▸ fits_any n W : Calls Tryd.prog 36 #[.int .i64 n] W fun e w' => e = .returned (.bool false) ∧ W = w')
    go_quiet (exact quiet_same (cF _))
    go_wp2_with fail
    go_ret
    exact ⟨rfl, hL.trans ⟨nq, #[], by rw [grow_empty]⟩⟩
  · have hn : 0 ≤ n ∧ n ≤ 32 := of_decide_eq_true hf
    obtain ⟨k, rfl⟩ := Int.eq_ofNat_of_zero_le hn.1
    have hk : k ≤ 32 := by omega
    have hm := bits_andNot_mask a k ha hk
    have hg := Go.Lib.hid (goodB_mod (a := a) hk)
    have hL := (Laid.refl w).alloc (.cells #[.int .u32 (a : Int), .int .i64 k] 24)
    obtain ⟨c0, c1⟩ := cells_two w (.int .u32 (a : Int)) (.int .i64 k) 24
    go_enter Tryd.func26, Tryd.ntmps26
    go_wp2_with fail
    generalize w.alloc (.cells #[.int .u32 (a : Int), .int .i64 k] 24) = W at hL c0 c1 ⊢
    have cF := fun W => (hf ▸ fits_any (k : Int) W : Calls Tryd.prog 36 #[.int .i64 (k : Int)] W fun e w' => e = .returned (.bool true) ∧ W = w')
    have cM := mask_in k hk
    go_quiet (first | exact quiet_same (cF _) | exact quiet_same (cM _))
    go_wp2_with fail
    go_ret
    exact ⟨ret_bool hg.out, hL.trans ⟨nq, #[], by rw [grow_empty]⟩⟩

set_option maxHeartbeats 1000000 in
theorem cmp_laid (pa : Nat) (pn : Int) (qa : Nat) (qn : Int) (hpa : pa < 4294967296) (hqa : qa < 4294967296) (hp : goodB pa pn = true) (hq : goodB qa qn = true) (w : World) :
    Calls Tryd.prog 24 #[.agg #[.int .u32 pa, .int .i64 pn], .agg #[.int .u32 qa, .int .i64 qn]] w fun e w' => e = .returned (.int .i64 (cmpP pa pn qa qn)) ∧ Laid w w' := by
  have hb := below_new2 w (.cells #[.int .u32 (pa : Int), .int .i64 pn] 24) (.cells #[.int .u32 (qa : Int), .int .i64 qn] 24)
  have hL := (Laid.refl w).alloc (.cells #[.int .u32 (pa : Int), .int .i64 pn] 24) |>.alloc (.cells #[.int .u32 (qa : Int), .int .i64 qn] 24)
  obtain ⟨c0, c1, c2, c3⟩ := cells_four w (.int .u32 (pa : Int)) (.int .i64 pn) (.int .u32 (qa : Int)) (.int .i64 qn) 24
  rcases Nat.lt_trichotomy pa qa with h | h | h
  · have e : cmpP pa pn qa qn = -1 := by unfold cmpP; rw [if_pos (Or.inl h)]
    have hc := cmpI_lt (Int.ofNat_lt.2 h)
    have hne : ¬ ((pa : Int) = (qa : Int)) := by omega
    rw [e]
    go_enter Tryd.func24, Tryd.ntmps24
    go_wp2_with fail
    generalize (w.alloc (.cells #[.int .u32 (pa : Int), .int .i64 pn] 24)).alloc (.cells #[.int .u32 (qa : Int), .int .i64 qn] 24) = W at hb hL c0 c1 c2 c3 ⊢
    go_wp2_with (first | (go_at_call 26; with_reducible refine (good_laid pa pn hpa _).mono ?_; rintro e w1 ⟨rfl, hl1⟩; have hb1 := hl1.below; have d0 := keeps hb1 c0; have d1 := keeps hb1 c1; have d2 := keeps hb1 c2; have d3 := keeps hb1 c3) | (go_at_call 26; with_reducible refine (good_laid qa qn hqa _).mono ?_; rintro e w2 ⟨rfl, hl2⟩; have hb2 := hl2.below; have g0 := keeps hb2 d0; have g1 := keeps hb2 d1; have g2 := keeps hb2 d2; have g3 := keeps hb2 d3) | (go_at_call 33; refine (cmpu_any _ _ _).mono ?_; rintro e w3 ⟨rfl, rfl⟩) | (go_at_call 34; refine (cmpi_any _ _ _).mono ?_; rintro e w3 ⟨rfl, rfl⟩))
    go_ret
    exact ⟨rfl, hL.trans (hl1.trans hl2)⟩
  · subst h
    rcases Int.lt_trichotomy pn qn with h | h | h
    · have e : cmpP pa pn pa qn = -1 := by unfold cmpP; rw [if_pos (Or.inr ⟨rfl, h⟩)]
      have hc := cmpI_lt h
      rw [e]
      go_enter Tryd.func24, Tryd.ntmps24
      go_wp2_with fail
      generalize (w.alloc (.cells #[.int .u32 (pa : Int), .int .i64 pn] 24)).alloc (.cells #[.int .u32 (pa : Int), .int .i64 qn] 24) = W at hb hL c0 c1 c2 c3 ⊢
      go_wp2_with (first | (go_at_call 26; with_reducible refine (good_laid pa pn hpa _).mono ?_; rintro e w1 ⟨rfl, hl1⟩; have hb1 := hl1.below; have d0 := keeps hb1 c0; have d1 := keeps hb1 c1; have d2 := keeps hb1 c2; have d3 := keeps hb1 c3) | (go_at_call 26; with_reducible refine (good_laid pa qn hpa _).mono ?_; rintro e w2 ⟨rfl, hl2⟩; have hb2 := hl2.below; have g0 := keeps hb2 d0; have g1 := keeps hb2 d1; have g2 := keeps hb2 d2; have g3 := keeps hb2 d3) | (go_at_call 33; refine (cmpu_any _ _ _).mono ?_; rintro e w3 ⟨rfl, rfl⟩) | (go_at_call 34; refine (cmpi_any _ _ _).mono ?_; rintro e w3 ⟨rfl, rfl⟩))
      go_ret
      exact ⟨rfl, hL.trans (hl1.trans hl2)⟩
    · subst h
      have hc := cmpI_eq pn
      have e : cmpP pa pn pa pn = 0 := by unfold cmpP; rw [if_neg (by omega), if_pos ⟨rfl, rfl⟩]
      rw [e]
      go_enter Tryd.func24, Tryd.ntmps24
      go_wp2_with fail
      generalize (w.alloc (.cells #[.int .u32 (pa : Int), .int .i64 pn] 24)).alloc (.cells #[.int .u32 (pa : Int), .int .i64 pn] 24) = W at hb hL c0 c1 c2 c3 ⊢
      go_wp2_with (first | (go_at_call 26; with_reducible refine (good_laid pa pn hpa _).mono ?_; rintro e w1 ⟨rfl, hl1⟩; have hb1 := hl1.below; have d0 := keeps hb1 c0; have d1 := keeps hb1 c1; have d2 := keeps hb1 c2; have d3 := keeps hb1 c3) | (go_at_call 26; with_reducible refine (good_laid pa pn hpa _).mono ?_; rintro e w2 ⟨rfl, hl2⟩; have hb2 := hl2.below; have g0 := keeps hb2 d0; have g1 := keeps hb2 d1; have g2 := keeps hb2 d2; have g3 := keeps hb2 d3) | (go_at_call 33; refine (cmpu_any _ _ _).mono ?_; rintro e w3 ⟨rfl, rfl⟩) | (go_at_call 34; refine (cmpi_any _ _ _).mono ?_; rintro e w3 ⟨rfl, rfl⟩))
      go_ret
      exact ⟨rfl, hL.trans (hl1.trans hl2)⟩
    · have hc := cmpI_gt h
      have e : cmpP pa pn pa qn = 1 := by unfold cmpP; rw [if_neg (by omega), if_neg (by omega)]
      rw [e]
      go_enter Tryd.func24, Tryd.ntmps24
      go_wp2_with fail
      generalize (w.alloc (.cells #[.int .u32 (pa : Int), .int .i64 pn] 24)).alloc (.cells #[.int .u32 (pa : Int), .int .i64 qn] 24) = W at hb hL c0 c1 c2 c3 ⊢
      go_wp2_with (first | (go_at_call 26; with_reducible refine (good_laid pa pn hpa _).mono ?_; rintro e w1 ⟨rfl, hl1⟩; have hb1 := hl1.below; have d0 := keeps hb1 c0; have d1 := keeps hb1 c1; have d2 := keeps hb1 c2; have d3 := keeps hb1 c3) | (go_at_call 26; with_reducible refine (good_laid pa qn hpa _).mono ?_; rintro e w2 ⟨rfl, hl2⟩; have hb2 := hl2.below; have g0 := keeps hb2 d0; have g1 := keeps hb2 d1; have g2 := keeps hb2 d2; have g3 := keeps hb2 d3) | (go_at_call 33; refine (cmpu_any _ _ _).mono ?_; rintro e w3 ⟨rfl, rfl⟩) | (go_at_call 34; refine (cmpi_any _ _ _).mono ?_; rintro e w3 ⟨rfl, rfl⟩))
      go_ret
      exact ⟨rfl, hL.trans (hl1.trans hl2)⟩
  · have hc := cmpI_gt (Int.ofNat_lt.2 h)
    have e : cmpP pa pn qa qn = 1 := by unfold cmpP; rw [if_neg (by omega), if_neg (by omega)]
    have hne : ¬ ((pa : Int) = (qa : Int)) := by omega
    rw [e]
    go_enter Tryd.func24, Tryd.ntmps24
    go_wp2_with fail
    generalize (w.alloc (.cells #[.int .u32 (pa : Int), .int .i64 pn] 24)).alloc (.cells #[.int .u32 (qa : Int), .int .i64 qn] 24) = W at hb hL c0 c1 c2 c3 ⊢
    go_wp2_with (first | (go_at_call 26; with_reducible refine (good_laid pa pn hpa _).mono ?_; rintro e w1 ⟨rfl, hl1⟩; have hb1 := hl1.below; have d0 := keeps hb1 c0; have d1 := keeps hb1 c1; have d2 := keeps hb1 c2; have d3 := keeps hb1 c3) | (go_at_call 26; with_reducible refine (good_laid qa qn hqa _).mono ?_; rintro e w2 ⟨rfl, hl2⟩; have hb2 := hl2.below; have g0 := keeps hb2 d0; have g1 := keeps hb2 d1; have g2 := keeps hb2 d2; have g3 := keeps hb2 d3) | (go_at_call 33; refine (cmpu_any _ _ _).mono ?_; rintro e w3 ⟨rfl, rfl⟩) | (go_at_call 34; refine (cmpi_any _ _ _).mono ?_; rintro e w3 ⟨rfl, rfl⟩))
    go_ret
    exact ⟨rfl, hL.trans (hl1.trans hl2)⟩
end Go.Proofs.YtgjdpmpbldofpaaDoor.Pfx
