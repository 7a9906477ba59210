/- A label at the head of a scope to which one goes back. It speaks of no function of the program. -/
import Derived.ScopeJumps
import Derived.Test.YtgjdpmpbldofpaaDoorMem
namespace Go.Proofs.YtgjdpmpbldofpaaDoor.Wlk

theorem wp_scope_up {P : Program} {rest : Code} {a : Act} {w : World} {Q : Exit → Act → World → Prop} (l : Nat) (J : Act → World → Prop) (μ : Act → World → Nat) (h0 : J a w)
    (pass : ∀ a w, J a w → rest.wp P (Exit.jump l (fun a' w' => J a' w' ∧ μ a' w' < μ a w) Q) a w) : (Code.scope ((Code.label l).seq rest)).wp P Q a w := by
  refine wp_scope_jumps (rest := Code.seq .skip rest) l J μ (by simp [findLabel]) ?_ ?_
  · refine wp_seq (wp_label (wp_mono (pass a w h0) ?_))
    intro e a' w' h
    cases e
    case goto l' => exact ⟨h.1, h.2.1⟩
    all_goals exact h
  · exact fun a w h => wp_seq (wp_skip (pass a w h))
end Go.Proofs.YtgjdpmpbldofpaaDoor.Wlk
