/- What the laws ask of the program's tree. -/
import Derived.Test.YtpcahgnibdampaaTriMem
import Derived.Test.YtpcahgnibdampaaPfxGive
namespace Go.Proofs.Ytpcahgnibdampaa.Tri
open Go.RowKit Mem PR Pfx Oct

/-- What stands of a tree: its base, itself, what it holds, its blocks. -/
abbrev Tree := World → Nat → Value → Tr → (Nat → Prop) → Prop
def valE (l : List Ent) (p : Pf) : Int := (getE l p).getD 0
def hasE (l : List Ent) (p : Pf) : Bool := (getE l p).isSome
/-- What Put and Cut give. -/
def TurnF (T : Tree) (base : Nat) (v : Value) (l l2 : List Ent) (p : Pf) (F : Nat → Prop) (w : World) (e : Ending) (w' : World) : Prop :=
  ∃ t2 F2, e = .returned (.tuple #[.int .i64 (valE l p), .bool (hasE l p)]) ∧ T w' base v t2 F2 ∧ ents t2 = l2 ∧ Only F w w' ∧ Grow F F2 w
/-- What Longest gives. -/
def longV : Option Ent → Value
  | none => .tuple #[.agg #[.int .u32 0, .int .i64 0], .int .i64 0, .bool false]
  | some e => .tuple #[pV e.p, .int .i64 e.v, .bool true]
/-- What is asked of the tree's functions. -/
structure FaceT (T : Tree) : Prop where
  keep : ∀ {W W' : World} {base : Nat} {v : Value} {t : Tr} {F : Nat → Prop}, T W base v t F → (∀ k, F k → W'.heap[k]? = W.heap[k]?) → W.heap.size ≤ W'.heap.size → T W' base v t F
  low : ∀ {W : World} {base : Nat} {v : Value} {t : Tr} {F : Nat → Prop}, T W base v t F → ∀ k, F k → base ≤ k ∧ k < W.heap.size
  wf : ∀ {W : World} {base : Nat} {v : Value} {t : Tr} {F : Nat → Prop}, T W base v t F → WF t
  new : ∀ W, Calls Try.prog 7 #[] W (fun e W' => ∃ b F, e = .returned (.pointer (some ⟨b, 0, none⟩)) ∧ T W' W.heap.size (.pointer (some ⟨b, 0, none⟩)) .nil F ∧ Below W.heap.size W W')
  put : ∀ {W : World} {base : Nat} {v : Value} {t : Tr} {F : Nat → Prop} (p : Pf) (x : Int), T W base v t F → p.ok → (Lit.int .i64 x).wf = true → base ≤ W.heap.size → (ents t).length ≤ 1000 →
    Calls Try.prog 24 #[v, pV p, .int .i64 x] W (TurnF T base v (ents t) (if goodP p then putE (ents t) p x else ents t) p F W)
  cut : ∀ {W : World} {base : Nat} {v : Value} {t : Tr} {F : Nat → Prop} (p : Pf), T W base v t F → p.ok → base ≤ W.heap.size → (ents t).length ≤ 1000 →
    Calls Try.prog 25 #[v, pV p] W (TurnF T base v (ents t) (cutE (ents t) p) p F W)
  get : ∀ {W : World} {base : Nat} {v : Value} {t : Tr} {F : Nat → Prop} (p : Pf), T W base v t F → p.ok → Calls Try.prog 11 #[v, pV p] W (Tells (.tuple #[.int .i64 (valE (ents t) p), .bool (hasE (ents t) p)]) W)
  long : ∀ {W : World} {base : Nat} {v : Value} {t : Tr} {F : Nat → Prop} (a : Nat), T W base v t F → a < 4294967296 → Calls Try.prog 12 #[v, .int .u32 a] W (Tells (longV (longE a none (ents t))) W)
  above : ∀ {W : World} {base : Nat} {v : Value} {t : Tr} {F : Nat → Prop} (p : Pf), T W base v t F → p.ok → (ents t).length ≤ 1000 → Calls Try.prog 15 #[v, pV p] W (GivesP (aboveE (ents t) p) W)
  below : ∀ {W : World} {base : Nat} {v : Value} {t : Tr} {F : Nat → Prop} (p : Pf), T W base v t F → p.ok → (ents t).length ≤ 1000 → Calls Try.prog 17 #[v, pV p] W (GivesP (belowE (ents t) p) W)
  all : ∀ {W : World} {base : Nat} {v : Value} {t : Tr} {F : Nat → Prop}, T W base v t F → (ents t).length ≤ 1000 → Calls Try.prog 20 #[v] W (GivesP (keys (ents t)) W)
  len : ∀ {W : World} {base : Nat} {v : Value} {t : Tr} {F : Nat → Prop}, T W base v t F → (ents t).length ≤ 1000 → Calls Try.prog 19 #[v] W (Tells (.int .i64 (ents t).length) W)
  count : ∀ {W : World} {base : Nat} {v : Value} {t : Tr} {F : Nat → Prop} (p : Pf), T W base v t F → p.ok → (ents t).length ≤ 1000 → Calls Try.prog 18 #[v, pV p] W (Tells (.int .i64 ((belowE (ents t) p).length + (if hasE (ents t) p then 1 else 0) : Nat)) W)
  nodes : ∀ {W : World} {base : Nat} {v : Value} {t : Tr} {F : Nat → Prop}, T W base v t F → (ents t).length ≤ 1000 → Calls Try.prog 23 #[v] W (Tells (.int .i64 (size t)) W)
  check : ∀ {W : World} {base : Nat} {v : Value} {t : Tr} {F : Nat → Prop}, T W base v t F → (ents t).length ≤ 1000 → Calls Try.prog 22 #[v] W (Tells (.bool true) W)
end Go.Proofs.Ytpcahgnibdampaa.Tri
