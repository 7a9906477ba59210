/- Plain mathematics: a step through parameters, and through capabilities. It speaks of no function of the program. -/
import Derived.Test.YtkkfnpacejdlnaaOpnMath
namespace Go.Proofs.Ytkkfnpacejdlnaa.Opn
open Oct Att

def thenO (r : Option Op) (f : Op → Nat ⊕ Op) : Nat ⊕ Op := match r with
  | some o => f o
  | none => .inl 0
theorem pars_two (o : Op) (t m : Nat) (r : List Nat) : pars o (t :: m :: r) = if m ≤ r.length then (if t = 2 then thenO (caps o (r.take m)) (fun o2 => pars o2 (r.drop m)) else .inl 4) else .inl 0 := by
  rw [pars_step]; rfl
end Go.Proofs.Ytkkfnpacejdlnaa.Opn
