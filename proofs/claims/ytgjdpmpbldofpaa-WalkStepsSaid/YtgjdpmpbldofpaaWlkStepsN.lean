/- The walk of the law WalkSteps, of a prefix that is not good. -/
import Derived.Test.YtgjdpmpbldofpaaWlkStepsP
import Derived.Test.YtgjdpmpbldofpaaWlkLives
import Derived.Test.YtgjdpmpbldofpaaPfxWalkC
namespace Go.Proofs.Ytgjdpmpbldofpaa.Wlk
open Go.RowKit Go.Sort Mem Pfx PR Oct

set_option maxRecDepth 100000 in
set_option maxHeartbeats 16000000 in
/-- A prefix that is not good. -/
theorem steps_none (p : Pf) (d : Int) (q : Pf) (w : World) (hp : p.ok) (hg : good p = false) : Calls Try.prog 4 #[.agg #[.int .u32 p.a, .int .i64 p.n], .int .i64 d, .agg #[.int .u32 q.a, .int .i64 q.n]] w (Tells (.bool true) w) := by
  have CS := Go.Lib.hid (fun (d : Int) W => steps_bad p hp.1 hg d W)
  have CG := Go.Lib.hid (fun W => refGood_any p.a p.n hp.1 W)
  rw [show goodB p.a p.n = false from hg] at CG
  have HB := Go.Lib.hid (below_new2 w (.cells #[.int .u32 (p.a : Int), .int .i64 p.n] 35) (.cells #[.int .u32 (q.a : Int), .int .i64 q.n] 35))
  obtain ⟨c0, c1⟩ := cells_two w (.int .u32 (p.a : Int)) (.int .i64 p.n) 35
  replace c0 := keeps (below_new _ (.cells #[.int .u32 (q.a : Int), .int .i64 q.n] 35)) c0
  replace c1 := keeps (below_new _ (.cells #[.int .u32 (q.a : Int), .int .i64 q.n] 35)) c1
  have T0 := Go.Lib.hid True.intro
  obtain ⟨pa, pn⟩ := p
  obtain ⟨qa, qn⟩ := q
  dsimp only at c0 c1 CS CG HB ⊢
  clear hp hg
  by_cases h4 : 4 < d
  · by_cases h8 : d ≤ 8
    all_goals
      first
        | have g8 : decide (d ≤ 8) = true := decide_eq_true h8
        | have g8 : decide (d ≤ 8) = false := decide_eq_false h8
      have g4 : decide (4 < d) = true := decide_eq_true h4
      go_enter Try.func4, Try.ntmps4
      go_wp2_with (first
        | (go_at_call 16; have tok := T0.out; (with_reducible refine (CS.out _ _).mono ?_); rintro e w1 ⟨rfl, hb⟩; replace c0 := keeps hb c0; replace c1 := keeps hb c1; replace HB := Go.Lib.hid (Pfx.Below.tr HB.out hb); clear hb tok)
        | (go_at_call 17; (with_reducible refine (CG.out _).mono ?_); rintro e w2 ⟨rfl, hb⟩; replace c0 := keeps hb c0; replace HB := Go.Lib.hid (Pfx.Below.tr HB.out hb); clear hb)
        | (go_at_call 15; (with_reducible refine (lives_any _).mono ?_); rintro e w3 ⟨rfl, hb⟩; replace HB := Go.Lib.hid (Pfx.Below.tr HB.out hb); clear hb))
      go_ret
      exact ⟨rfl, HB.out⟩
  · have g4 : decide (4 < d) = false := decide_eq_false h4
    go_enter Try.func4, Try.ntmps4
    go_wp2_with (first
      | (go_at_call 16; have tok := T0.out; (with_reducible refine (CS.out _ _).mono ?_); rintro e w1 ⟨rfl, hb⟩; replace c0 := keeps hb c0; replace c1 := keeps hb c1; replace HB := Go.Lib.hid (Pfx.Below.tr HB.out hb); clear hb tok)
      | (go_at_call 17; (with_reducible refine (CG.out _).mono ?_); rintro e w2 ⟨rfl, hb⟩; replace c0 := keeps hb c0; replace HB := Go.Lib.hid (Pfx.Below.tr HB.out hb); clear hb)
      | (go_at_call 15; (with_reducible refine (lives_any _).mono ?_); rintro e w3 ⟨rfl, hb⟩; replace HB := Go.Lib.hid (Pfx.Below.tr HB.out hb); clear hb))
    go_ret
    exact ⟨rfl, HB.out⟩
end Go.Proofs.Ytgjdpmpbldofpaa.Wlk
