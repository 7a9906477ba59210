/- A goto to a label that lies ahead: what follows the label is walked where the jump is made. It speaks of no function of the program. -/
import Derived.Test.YtgeekckoepnccaaProg
import Derived.ScopeJumps
import Derived.WalkMore
import Derived.WalkKit
namespace Go.Proofs.Ytgeekckoepnccaa.Ahead

theorem jump_ret {l : Nat} {J : Act → World → Prop} {Q : Exit → Act → World → Prop} {a : Act} {w : World} : Exit.jump l J Q .ret a w = Q .ret a w := rfl
theorem jump_normal {l : Nat} {J : Act → World → Prop} {Q : Exit → Act → World → Prop} {a : Act} {w : World} : Exit.jump l J Q .normal a w = Q .normal a w := rfl
theorem jump_goto {l : Nat} {J : Act → World → Prop} {Q : Exit → Act → World → Prop} {a : Act} {w : World} (h : J a w) : Exit.jump l J Q (.goto l) a w := ⟨rfl, h⟩
/-- A SCOPE OUT OF WHICH ONE LABEL IS JUMPED TO, ONCE: behind the jump the walk goes on with what follows the label. -/
theorem wp_scope_ahead {P : Program} {c next : Code} {Q : Exit → Act → World → Prop} {a : Act} {w : World} (l : Nat) (hf : findLabel c l = some next)
    (h : c.wp P (Exit.jump l (fun a w => next.wp P (Exit.noGoto Q) a w) Q) a w) : (Code.scope c).wp P Q a w :=
  wp_scope_jumps l _ (fun _ _ => 0) hf h fun _ _ hJ => Code.wp_mono (fun e _ _ hq => by
    cases e with
    | goto l' => exact hq.elim
    | normal => exact hq
    | exit id => exact hq
    | ret => exact hq
    | panic ch => exact hq
    | outgrown => exact hq) hJ
end Go.Proofs.Ytgeekckoepnccaa.Ahead
