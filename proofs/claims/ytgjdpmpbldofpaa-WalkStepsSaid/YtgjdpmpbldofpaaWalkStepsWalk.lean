/- The walk of the law WalkSteps. -/
import Derived.Test.YtgjdpmpbldofpaaWlkStepsA
import Derived.Test.YtgjdpmpbldofpaaWlkStepsB
import Derived.Test.YtgjdpmpbldofpaaWlkStepsC
import Derived.Test.YtgjdpmpbldofpaaWlkStepsE
import Derived.Test.YtgjdpmpbldofpaaWlkStepsN
namespace Go.Proofs.Ytgjdpmpbldofpaa.Wlk
open Go.RowKit Go.Sort Mem Pfx PR Oct

theorem steps_walk (p : Pf) (d : Int) (q : Pf) (w : World) (hp : p.ok) (hq : q.ok) : Calls Try.prog 4 #[.agg #[.int .u32 p.a, .int .i64 p.n], .int .i64 d, .agg #[.int .u32 q.a, .int .i64 q.n]] w (Tells (.bool true) w) := by
  cases hg : good p with
  | false => exact steps_none p d q w hp hg
  | true =>
    have gp : G p := ⟨hg, hp.1⟩
    have hl := gp.len
    by_cases h0 : d < 0
    · have hD : deepN d = 0 := by unfold deepN; rw [if_pos h0]
      exact steps_Aa p d q w gp hq h0 0 rfl hD (by omega)
    by_cases h8 : 8 < d
    · have hD : deepN d = 8 := by unfold deepN; rw [if_neg h0, if_pos h8]
      by_cases hab : ((8 : Nat) : Int) ≤ 32 - p.n
      · exact steps_Ea p d q w gp hq h8 8 rfl hD hab
      · exact steps_Eb p d q w gp hq h8 8 rfl hD (by omega)
    by_cases h4 : 4 < d
    · have hD : deepN 4 = 4 := by decide
      by_cases hab : ((4 : Nat) : Int) ≤ 32 - p.n
      · exact steps_Ca p d q w gp hq ⟨h4, by omega⟩ 4 rfl hD hab
      · exact steps_Cb p d q w gp hq ⟨h4, by omega⟩ 4 rfl hD (by omega)
    · have hD : deepN d = d.toNat := by unfold deepN; rw [if_neg h0, if_neg h8]
      by_cases hab : ((d.toNat : Nat) : Int) ≤ 32 - p.n
      · exact steps_Ba p d q w gp hq ⟨by omega, by omega⟩ d.toNat (by omega) hD hab
      · exact steps_Bb p d q w gp hq ⟨by omega, by omega⟩ d.toNat (by omega) hD (by omega)
end Go.Proofs.Ytgjdpmpbldofpaa.Wlk
