/- A code in pieces: a block by its number, what follows it; an exit that is blind at a panic. It speaks of no function of the program. -/
import Derived.Test.YtaemhgmekggliaaProg
import Derived.Deep.Cut
import Derived.Deep.CutRange
import Derived.Deep.CutBlock
import Derived.WalkKit
namespace Go.Proofs.Ytaemhgmekggliaa.Kit

/-- A block of a code, by its number; what follows it. -/
def blkOf (n : Nat) : Code → Option Code
  | .block m c => if m = n then some (.block m c) else blkOf n c
  | .loop c => blkOf n c
  | .scope c => blkOf n c
  | .seq a b => match blkOf n a with
    | some c => some c
    | none => blkOf n b
  | .cond _ a b => match blkOf n a with
    | some c => some c
    | none => blkOf n b
  | _ => none
def endsIn (n : Nat) : Code → Bool
  | .block m _ => m == n
  | .seq _ b => endsIn n b
  | .scope c => endsIn n c
  | _ => false
def behind (n : Nat) : Code → Option Code
  | .block _ c => behind n c
  | .loop c => behind n c
  | .scope c => behind n c
  | .seq a b => if endsIn n a then some b else match behind n a with
    | some c => some c
    | none => behind n b
  | .cond _ a b => match behind n a with
    | some c => some c
    | none => behind n b
  | _ => none
theorem wp_code {C D : Code} {Q : Exit → Go.Act → World → Prop} {a : Go.Act} {w : World} (h : C = D) (H : Code.wp Try.prog C Q a w) : Code.wp Try.prog D Q a w := h ▸ H
/-- A piece that does not die. -/
def deadQ (Q : Exit → Go.Act → World → Prop) : Exit → Go.Act → World → Prop
  | .panic _, _, _ => False
  | e, a, w => Q e a w
theorem deadQ_imp {Q : Exit → Go.Act → World → Prop} {e : Exit} {a : Go.Act} {w : World} (h : deadQ Q e a w) : Q e a w := by
  cases e with
  | panic c => exact h.elim
  | _ => exact h
theorem wp_dead {C : Code} {K : Go.Act → World → Prop} {Q : Exit → Go.Act → World → Prop} {a : Go.Act} {w : World} (h : Code.wp Try.prog C (Exit.then K (deadQ Q)) a w) : Code.wp Try.prog C (Exit.then K Q) a w := by
  refine wp_mono h ?_
  intro e a' w' hq
  cases e with
  | normal => exact hq
  | exit id => exact deadQ_imp hq
  | goto l => exact deadQ_imp hq
  | ret => exact deadQ_imp hq
  | panic ch => exact deadQ_imp hq
  | outgrown => exact deadQ_imp hq
end Go.Proofs.Ytaemhgmekggliaa.Kit
