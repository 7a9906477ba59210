/- Moves for a region that draws its order, walked by hand: an operation that is wanted is taken first; operations that are not wanted are taken together; the one call that may come up comes up. It speaks of no function of the program. -/
import Derived.Test.YtpcahgnibdampaaProg
import Derived.WalkKit
import Derived.RegionTactic
import Derived.Deep.RegionHeld3
namespace Go.Proofs.Ytpcahgnibdampaa.Take
theorem nm : ((∀ (l : List Value) (i : Nat) (x : Value), l.toArray.setIfInBounds i x = (l.set i x).toArray) ∧ (∀ (a x : Value) (l : List Value), (a :: l).set 0 x = x :: l) ∧ (∀ (a x : Value) (l : List Value) (i : Nat), (a :: l).set (i + 1) x = a :: l.set i x)) ∧ (∀ (l : List Bool) (i : Nat) (x : Bool), l.toArray.setIfInBounds i x = (l.set i x).toArray) ∧ (∀ (a x : Bool) (l : List Bool), (a :: l).set 0 x = x :: l) ∧ (∀ (a x : Bool) (l : List Bool) (i : Nat), (a :: l).set (i + 1) x = a :: l.set i x) :=
  ⟨⟨fun _ _ _ => by simp, fun _ _ _ => rfl, fun _ _ _ _ => rfl⟩, fun _ _ _ => by simp, fun _ _ _ => rfl, fun _ _ _ _ => rfl⟩
theorem fl {α β : Type} : (∀ (f : α → β → α) (a : α), List.foldl f a [] = a) ∧ (∀ (f : α → β → α) (a : α) (b : β) (l : List β), List.foldl f a (b :: l) = List.foldl f (f a b) l) := ⟨fun _ _ => rfl, fun _ _ _ _ => rfl⟩
section
variable {P : Program} {ops : Array Oper} {Q : Exit → Act → World → Prop} {md : Region.Mode} {S : World → Prop}
def nextOk (md : Region.Mode) (ops : Array Oper) (listed : Array Bool) (i : Nat) : Bool := Region.noSelect ops && (Region.free md ops listed i && (Region.ready md ops listed).contains i)
theorem tk (i d : Nat) {oi : Oper} {v : Value} {fuel : Nat} {listed : Array Bool} {a : Act} {w : World} (hS : S w)
    (h : wpAnyH P md ops Q S fuel (listed.setIfInBounds i true) (a.put (some d) v) w)
    (hi : ops[i]? = some oi := by rfl) (hd : oi.dst = some d := by rfl) (hc : nextOk md ops listed i = true := by kernel_rfl) (hw : Region.wanted oi (yielded ops a.tmps) = true := by rfl)
    (hy : ∀ w, S w → (execOp a.eval oi).run P w = .ok (.value v) w := by intro w hSw; (try dsimp only at hSw); go_simp; try with_reducible rfl)
    (hQ : ∀ c a w, Q (.panic c) (a.put (some d) v) w → Q (.panic c) a w := by exact fun _ _ _ h => h) : wpAnyH P md ops Q S (fuel + 1) listed a w := by
  unfold nextOk at hc
  simp only [Bool.and_eq_true] at hc
  rw [← hd] at h
  exact wpAnyH_take hi hc.1 hc.2.1 hc.2.2 (fun c a w => by rw [hd]; exact hQ c a w) (.inl ⟨hw, hy⟩) hS h
def skipOk (md : Region.Mode) (ops : Array Oper) : List (Nat × Nat) → Array Bool → Array Value → Bool
  | [], _, _ => true
  | (i, d) :: L, listed, t => (match ops[i]? with | some oi => (oi.dst == some d) && !Region.wanted oi (yielded ops t) && nextOk md ops listed i | none => false) && skipOk md ops L (listed.setIfInBounds i true) (t.setIfInBounds d undef)
theorem sk : ∀ (L : List (Nat × Nat)) {fuel : Nat} {listed : Array Bool} {a : Act} {w : World} (_ : S w)
    (_ : wpAnyH P md ops Q S fuel (L.foldl (fun l p => l.setIfInBounds p.1 true) listed) (L.foldl (fun a p => a.put (some p.2) undef) a) w)
    (_ : skipOk md ops L listed a.tmps = true := by kernel_rfl) (_ : ∀ c a d w, Q (.panic c) (a.put (some d) undef) w → Q (.panic c) a w := by exact fun _ _ _ _ h => h), wpAnyH P md ops Q S (fuel + L.length) listed a w
  | [], fuel, listed, a, w, hS, h, _, _ => h
  | (i, d) :: L, fuel, listed, a, w, hS, h, hc, hQ => by
    unfold skipOk at hc
    rw [Bool.and_eq_true] at hc
    obtain ⟨h1, h2⟩ := hc
    cases ho : ops[i]? with
    | none => rw [ho] at h1; cases h1
    | some oi =>
      rw [ho] at h1
      simp only [Bool.and_eq_true, beq_iff_eq, Bool.not_eq_true'] at h1
      obtain ⟨⟨h3, h4⟩, h5⟩ := h1
      unfold nextOk at h5
      simp only [Bool.and_eq_true] at h5
      have e := sk L (fuel := fuel) (listed := listed.setIfInBounds i true) (a := a.put (some d) undef) hS h h2 hQ
      rw [← h3] at e
      exact wpAnyH_take ho h5.1 h5.2.1 h5.2.2 (fun c a w => by rw [h3]; exact hQ c a d w) (.inr ⟨h4, rfl⟩) hS e
end
end Go.Proofs.Ytpcahgnibdampaa.Take
