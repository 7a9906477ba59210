/- The contract of Halves. -/
import Derived.Test.YtgjdpmpbldofpaaDoorPfxWalkD
import Derived.Test.YtgjdpmpbldofpaaDoorPfxSix
import Derived.RegionTactic
import Derived.ChangeAlike
namespace Go.Proofs.YtgjdpmpbldofpaaDoor.Pfx
open Go.RowKit Go.Sort

theorem halves_bad (pa : Nat) (pn : Int) (hpa : pa < 4294967296) (h : goodB pa pn = false ∨ pn = 32) (w : World) :
    Calls Tryd.prog 42 #[.agg #[.int .u32 pa, .int .i64 pn]] w fun e w' => e = .returned (.tuple #[.agg #[.int .u32 0, .int .i64 0], .agg #[.int .u32 0, .int .i64 0], .bool false]) ∧ Below w.heap.size w w' := by
  have hb := below_new3 w (.cells #[.int .u32 (pa : Int), .int .i64 pn] 24) (.cells #[.int .u32 0, .int .i64 0] 24) (.cells #[.int .u32 0, .int .i64 0] 24)
  obtain ⟨c0, c1, c2, c3, c4, c5⟩ := cells_six w (.int .u32 (pa : Int)) (.int .i64 pn) (.int .u32 0) (.int .i64 0) (.int .u32 0) (.int .i64 0) 24
  obtain ⟨f2, f3, f4, f5⟩ := frozen_six w (.int .u32 (pa : Int)) (.int .i64 pn) (.int .u32 0) (.int .i64 0) (.int .u32 0) (.int .i64 0) 24
  have hz : w.heap.size ≤ w.heap.size + 1 := by omega
  have hz2 : w.heap.size ≤ w.heap.size + 2 := by omega
  cases hg : goodB pa pn
  · clear h
    go_enter Tryd.func42, Tryd.ntmps42
    go_wp2_with fail
    generalize ((w.alloc (.cells #[.int .u32 (pa : Int), .int .i64 pn] 24)).alloc (.cells #[.int .u32 0, .int .i64 0] 24)).alloc (.cells #[.int .u32 0, .int .i64 0] 24) = W at hb c0 c1 c2 c3 c4 c5 f2 f3 f4 f5 ⊢
    go_wp2_with (go_at_call 26; with_reducible refine (good_any pa pn hpa _).mono ?_; rintro e w1 ⟨rfl, hb1⟩; have d0 := keeps hb1 c0; have d1 := keeps hb1 c1; have d2 := keeps hb1 c2; have d3 := keeps hb1 c3; have d4 := keeps hb1 c4; have d5 := keeps hb1 c5; have g2 := keepsF hb1 c2 f2; have g3 := keepsF hb1 c3 f3; have g4 := keepsF hb1 c4 f4; have g5 := keepsF hb1 c5 f5)
    refine bodyPost_ret (v := .tuple #[.agg #[.int .u32 0, .int .i64 0], .agg #[.int .u32 0, .int .i64 0], .bool false]) (by simp [results, Tryd.results42, go_sem, *]) rfl ⟨rfl, ?_⟩
    exact ((((Below.tr hb hb1).setCell hz _).setCell hz _).setCell hz2 _).setCell hz2 _
  · have hn : pn = 32 := by rcases h with h | h
                            · rw [hg] at h; cases h
                            · exact h
    subst hn
    clear h
    go_enter Tryd.func42, Tryd.ntmps42
    go_wp2_with fail
    generalize ((w.alloc (.cells #[.int .u32 (pa : Int), .int .i64 32] 24)).alloc (.cells #[.int .u32 0, .int .i64 0] 24)).alloc (.cells #[.int .u32 0, .int .i64 0] 24) = W at hb c0 c1 c2 c3 c4 c5 f2 f3 f4 f5 ⊢
    go_wp2_with (go_at_call 26; with_reducible refine (good_any pa 32 hpa _).mono ?_; rintro e w1 ⟨rfl, hb1⟩; have d0 := keeps hb1 c0; have d1 := keeps hb1 c1; have d2 := keeps hb1 c2; have d3 := keeps hb1 c3; have d4 := keeps hb1 c4; have d5 := keeps hb1 c5; have g2 := keepsF hb1 c2 f2; have g3 := keepsF hb1 c3 f3; have g4 := keepsF hb1 c4 f4; have g5 := keepsF hb1 c5 f5)
    refine bodyPost_ret (v := .tuple #[.agg #[.int .u32 0, .int .i64 0], .agg #[.int .u32 0, .int .i64 0], .bool false]) (by simp [results, Tryd.results42, go_sem, *]) rfl ⟨rfl, ?_⟩
    exact ((((Below.tr hb hb1).setCell hz _).setCell hz _).setCell hz2 _).setCell hz2 _

theorem halves_good (pa k : Nat) (hpa : pa < 4294967296) (hg : goodB pa (k : Int) = true) (hk : k < 32) (w : World) :
    Calls Tryd.prog 42 #[.agg #[.int .u32 pa, .int .i64 k]] w fun e w' => e = .returned (.tuple #[.agg #[.int .u32 pa, .int .i64 (k + 1 : Nat)], .agg #[.int .u32 (highN pa k : Int), .int .i64 (k + 1 : Nat)], .bool true]) ∧ Below w.heap.size w w' := by
  have hb := below_new3 w (.cells #[.int .u32 (pa : Int), .int .i64 k] 24) (.cells #[.int .u32 0, .int .i64 0] 24) (.cells #[.int .u32 0, .int .i64 0] 24)
  obtain ⟨c0, c1, c2, c3, c4, c5⟩ := cells_six w (.int .u32 (pa : Int)) (.int .i64 k) (.int .u32 0) (.int .i64 0) (.int .u32 0) (.int .i64 0) 24
  obtain ⟨f2, f3, f4, f5⟩ := frozen_six w (.int .u32 (pa : Int)) (.int .i64 k) (.int .u32 0) (.int .i64 0) (.int .u32 0) (.int .i64 0) 24
  have hz : w.heap.size ≤ w.heap.size + 1 := by omega
  have hz2 : w.heap.size ≤ w.heap.size + 2 := by omega
  have hne : ¬ (k : Int) = 32 := by omega
  have ho := bits_high pa k hpa hk (goodB_cut hg)
  go_enter Tryd.func42, Tryd.ntmps42
  go_wp2_with fail
  generalize ((w.alloc (.cells #[.int .u32 (pa : Int), .int .i64 k] 24)).alloc (.cells #[.int .u32 0, .int .i64 0] 24)).alloc (.cells #[.int .u32 0, .int .i64 0] 24) = W at hb c0 c1 c2 c3 c4 c5 f2 f3 f4 f5 ⊢
  go_wp2_with (go_at_call 26; with_reducible refine (good_any pa k hpa _).mono ?_; rintro e w1 ⟨rfl, hb1⟩; have d0 := keeps hb1 c0; have d1 := keeps hb1 c1; have d2 := keeps hb1 c2; have d3 := keeps hb1 c3; have d4 := keeps hb1 c4; have d5 := keeps hb1 c5; have g2 := keepsF hb1 c2 f2; have g3 := keepsF hb1 c3 f3; have g4 := keepsF hb1 c4 f4; have g5 := keepsF hb1 c5 f5)
  clear c0 c1 c2 c3 c4 c5 f2 f3 f4 f5
  go_region
  go_wp2
  refine bodyPost_ret (v := .tuple #[.agg #[.int .u32 pa, .int .i64 (k + 1 : Nat)], .agg #[.int .u32 (highN pa k : Int), .int .i64 (k + 1 : Nat)], .bool true]) (by simp [results, Tryd.results42, go_sem, *]) rfl ⟨rfl, ?_⟩
  exact (((((Below.tr hb hb1).setCell hz _).setCell hz _).setCell hz2 _).setCell hz2 _).drew

end Go.Proofs.YtgjdpmpbldofpaaDoor.Pfx
