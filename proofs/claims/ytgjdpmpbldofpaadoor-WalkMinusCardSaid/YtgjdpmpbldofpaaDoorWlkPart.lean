/- Parts of addresses from one to another one, rising and apart: one more added, what two have in common, the rest, and the prefixes of them. It speaks of no function of the program. -/
import Derived.Test.YtgjdpmpbldofpaaDoorWlkFill
namespace Go.Proofs.YtgjdpmpbldofpaaDoor.Wlk
open Mem Pfx PR

structure Pt where
  A : Nat
  B : Nat
def inT (p : Pt) (x : Nat) : Prop := p.A ≤ x ∧ x ≤ p.B
def hasT (l : List Pt) (x : Nat) : Prop := ∃ p ∈ l, inT p x
theorem hasT_nil (x : Nat) : ¬ hasT [] x := by rintro ⟨p, hp, _⟩; cases hp
theorem hasT_append (l m : List Pt) (x : Nat) : hasT (l ++ m) x ↔ hasT l x ∨ hasT m x := by
  unfold hasT
  constructor
  · rintro ⟨p, hp, h⟩
    rcases List.mem_append.1 hp with h1 | h1
    · exact .inl ⟨p, h1, h⟩
    · exact .inr ⟨p, h1, h⟩
  · rintro (⟨p, hp, h⟩ | ⟨p, hp, h⟩)
    · exact ⟨p, List.mem_append.2 (.inl hp), h⟩
    · exact ⟨p, List.mem_append.2 (.inr hp), h⟩
theorem hasT_one (p : Pt) (x : Nat) : hasT [p] x ↔ inT p x := by
  unfold hasT
  simp
theorem hasT_cons (p : Pt) (l : List Pt) (x : Nat) : hasT (p :: l) x ↔ inT p x ∨ hasT l x := by
  rw [show p :: l = [p] ++ l from rfl, hasT_append, hasT_one]

/-- In bounds. -/
def InT (p : Pt) : Prop := p.A ≤ p.B ∧ p.B < 4294967296
structure Norm (l : List Pt) : Prop where
  ins : ∀ p ∈ l, InT p
  apart : l.Pairwise (fun p q => p.B + 1 < q.A)
theorem Norm.nil : Norm [] := ⟨fun _ h => (by cases h), List.Pairwise.nil⟩
theorem norm_one {p : Pt} (h : InT p) : Norm [p] := ⟨fun q hq => by simp at hq; subst hq; exact h, List.pairwise_singleton _ _⟩
theorem norm_append {l m : List Pt} (hl : Norm l) (hm : Norm m) (h : ∀ p ∈ l, ∀ q ∈ m, p.B + 1 < q.A) : Norm (l ++ m) :=
  ⟨fun p hp => (List.mem_append.1 hp).elim (hl.ins p) (hm.ins p), List.pairwise_append.2 ⟨hl.apart, hm.apart, h⟩⟩
theorem Norm.left {l m : List Pt} (h : Norm (l ++ m)) : Norm l := ⟨fun p hp => h.ins p (List.mem_append.2 (.inl hp)), (List.pairwise_append.1 h.apart).1⟩
theorem Norm.right {l m : List Pt} (h : Norm (l ++ m)) : Norm m := ⟨fun p hp => h.ins p (List.mem_append.2 (.inr hp)), (List.pairwise_append.1 h.apart).2.1⟩
theorem Norm.mid {l m : List Pt} (h : Norm (l ++ m)) : ∀ p ∈ l, ∀ q ∈ m, p.B + 1 < q.A := (List.pairwise_append.1 h.apart).2.2

/-- One part held against the one that is added. -/
def stepA (s : List Pt × Pt) (y : Pt) : List Pt × Pt :=
  if y.B + 1 < s.2.A ∨ s.2.B + 1 < y.A then (s.1 ++ [y], s.2) else (s.1, ⟨min s.2.A y.A, max s.2.B y.B⟩)
def insT : List Pt → Pt → List Pt
  | [], x => [x]
  | o :: l, x => if o.A < x.A then o :: insT l x else x :: o :: l
def addT (l : List Pt) (x : Pt) : List Pt := insT (l.foldl stepA ([], x)).1 (l.foldl stepA ([], x)).2
theorem insT_at : ∀ (l : List Pt) (i : Nat) {x : Pt}, (∀ o ∈ l.take i, o.A < x.A) → (i = l.length ∨ ∃ o, l[i]? = some o ∧ x.A ≤ o.A) → insT l x = l.take i ++ x :: l.drop i
  | [], i, x, _, h2 => by simp [insT]
  | o :: l, 0, x, _, h2 => by
    rcases h2 with h2 | ⟨o', h2, h3⟩
    · simp at h2
    · simp at h2
      subst h2
      unfold insT
      rw [if_neg (by omega)]
      rfl
  | o :: l, i + 1, x, h1, h2 => by
    unfold insT
    rw [List.take_succ_cons] at h1
    rw [if_pos (h1 o (List.mem_cons_self ..)), List.take_succ_cons, List.drop_succ_cons, insT_at l i (fun q hq => h1 q (List.mem_cons_of_mem _ hq)) ?_]
    · rfl
    · rcases h2 with h2 | ⟨o', h2, h3⟩
      · left
        simpa using h2
      · exact .inr ⟨o', by simpa using h2, h3⟩
theorem insT_len : ∀ (l : List Pt) (x : Pt), (insT l x).length = l.length + 1
  | [], _ => rfl
  | o :: l, x => by
    unfold insT
    split
    · rw [List.length_cons, insT_len l x, List.length_cons]
    · rfl
theorem insT_mem : ∀ (l : List Pt) (x p : Pt), p ∈ insT l x ↔ p = x ∨ p ∈ l
  | [], x, p => by simp [insT]
  | o :: l, x, p => by
    unfold insT
    split
    · rw [List.mem_cons, insT_mem l x p, List.mem_cons]
      constructor
      · rintro (h | h | h)
        · exact .inr (.inl h)
        · exact .inl h
        · exact .inr (.inr h)
      · rintro (h | h | h)
        · exact .inr (.inl h)
        · exact .inl h
        · exact .inr (.inr h)
    · rw [List.mem_cons]
def far (o x : Pt) : Prop := o.B + 1 < x.A ∨ x.B + 1 < o.A
theorem insT_norm : ∀ (l : List Pt) (x : Pt), Norm l → InT x → (∀ o ∈ l, far o x) → Norm (insT l x)
  | [], x, _, hx, _ => norm_one hx
  | o :: l, x, hn, hx, hf => by
    have hf0 := hf o (List.mem_cons_self ..)
    have ho := hn.ins o (List.mem_cons_self ..)
    unfold InT at ho hx
    unfold far at hf0
    have hn1 : Norm ([o] ++ l) := hn
    unfold insT
    split
    · have ih := insT_norm l x hn1.right hx (fun q hq => hf q (List.mem_cons_of_mem _ hq))
      refine norm_append (l := [o]) hn1.left ih ?_
      intro p hp q hq
      simp at hp
      subst hp
      rcases (insT_mem l x q).1 hq with rfl | hq
      · omega
      · exact hn1.mid p (by simp) q hq
    · refine norm_append (l := [x]) (norm_one hx) hn ?_
      intro p hp q hq
      simp at hp
      subst hp
      rcases List.mem_cons.1 hq with rfl | hq
      · omega
      · have := hn1.mid o (by simp) q hq
        omega
theorem fold_norm : ∀ (l out : List Pt) (x : Pt), Norm (out ++ l) → InT x → (∀ o ∈ out, far o x) →
    Norm (l.foldl stepA (out, x)).1 ∧ InT (l.foldl stepA (out, x)).2 ∧ (∀ o ∈ (l.foldl stepA (out, x)).1, far o (l.foldl stepA (out, x)).2) ∧
    (∀ y, (hasT (l.foldl stepA (out, x)).1 y ∨ inT (l.foldl stepA (out, x)).2 y) ↔ (hasT out y ∨ hasT l y ∨ inT x y)) ∧ (l.foldl stepA (out, x)).1.length ≤ out.length + l.length
  | [], out, x, hn, hx, hf => by
    simp only [List.foldl_nil, List.append_nil] at hn ⊢
    refine ⟨hn, hx, hf, fun y => ?_, Nat.le_refl _⟩
    have := hasT_nil y
    constructor
    · rintro (h | h)
      · exact .inl h
      · exact .inr (.inr h)
    · rintro (h | h | h)
      · exact .inl h
      · exact absurd h this
      · exact .inr h
  | p :: l, out, x, hn, hx, hf => by
    rw [List.foldl_cons]
    have hp := hn.ins p (by simp)
    have hmid := hn.mid
    unfold InT at hx hp
    by_cases h : p.B + 1 < x.A ∨ x.B + 1 < p.A
    · rw [show stepA (out, x) p = (out ++ [p], x) from if_pos h]
      obtain ⟨h1, h2, h3, h4, h5⟩ := fold_norm l (out ++ [p]) x (by simpa using hn) hx (fun o ho => by
        rcases List.mem_append.1 ho with ho | ho
        · exact hf o ho
        · simp at ho
          subst ho
          exact h)
      refine ⟨h1, h2, h3, fun y => ?_, by rw [List.length_append, List.length_singleton] at h5; rw [List.length_cons]; omega⟩
      rw [h4 y, hasT_append, hasT_one, hasT_cons]
      constructor
      · rintro ((h | h) | h | h)
        · exact .inl h
        · exact .inr (.inl (.inl h))
        · exact .inr (.inl (.inr h))
        · exact .inr (.inr h)
      · rintro (h | (h | h) | h)
        · exact .inl (.inl h)
        · exact .inl (.inr h)
        · exact .inr (.inl h)
        · exact .inr (.inr h)
    · rw [show stepA (out, x) p = (out, ⟨min x.A p.A, max x.B p.B⟩) from if_neg h]
      have hn2 : Norm (out ++ ([p] ++ l)) := hn
      have hn3 : Norm (out ++ l) := norm_append hn.left hn2.right.right (fun a ha b hb => hn.mid a ha b (List.mem_cons_of_mem _ hb))
      have hx2 : InT ⟨min x.A p.A, max x.B p.B⟩ := by unfold InT; dsimp only; omega
      obtain ⟨h1, h2, h3, h4, h5⟩ := fold_norm l out ⟨min x.A p.A, max x.B p.B⟩ hn3 hx2 (fun o ho => by
        have f := hf o ho
        have m := hn.mid o ho p (List.mem_cons_self ..)
        have i := hn.ins o (List.mem_append.2 (.inl ho))
        unfold far at f ⊢
        unfold InT at i
        dsimp only
        omega)
      refine ⟨h1, h2, h3, fun y => ?_, by rw [List.length_cons]; omega⟩
      rw [h4 y, hasT_cons]
      have e : inT ⟨min x.A p.A, max x.B p.B⟩ y ↔ inT p y ∨ inT x y := by
        unfold inT
        dsimp only
        omega
      rw [e]
      constructor
      · rintro (h | h | h | h)
        · exact .inl h
        · exact .inr (.inl (.inr h))
        · exact .inr (.inl (.inl h))
        · exact .inr (.inr h)
      · rintro (h | (h | h) | h)
        · exact .inl h
        · exact .inr (.inr (.inl h))
        · exact .inr (.inl h)
        · exact .inr (.inr (.inr h))
theorem addT_is {l : List Pt} {x : Pt} (hn : Norm l) (hx : InT x) : Norm (addT l x) ∧ (∀ y, hasT (addT l x) y ↔ hasT l y ∨ inT x y) ∧ (addT l x).length ≤ l.length + 1 := by
  obtain ⟨h1, h2, h3, h4, h5⟩ := fold_norm l [] x (by simpa using hn) hx (fun o ho => (by cases ho))
  refine ⟨insT_norm _ _ h1 h2 h3, fun y => ?_, ?_⟩
  · have e : hasT (addT l x) y ↔ (hasT (l.foldl stepA ([], x)).1 y ∨ inT (l.foldl stepA ([], x)).2 y) := by
      unfold addT
      generalize (l.foldl stepA ([], x)).1 = m
      generalize (l.foldl stepA ([], x)).2 = z
      unfold hasT
      constructor
      · rintro ⟨p, hp, h⟩
        rcases (insT_mem _ _ _).1 hp with rfl | hp
        · exact .inr h
        · exact .inl ⟨p, hp, h⟩
      · rintro (⟨p, hp, h⟩ | h)
        · exact ⟨p, (insT_mem _ _ _).2 (.inr hp), h⟩
        · exact ⟨z, (insT_mem _ _ _).2 (.inl rfl), h⟩
    rw [e, h4 y]
    have := hasT_nil y
    constructor
    · rintro (h | h | h)
      · exact absurd h this
      · exact .inl h
      · exact .inr h
    · rintro (h | h)
      · exact .inr (.inl h)
      · exact .inr (.inr h)
  · unfold addT
    rw [insT_len]
    simp at h5
    omega

/-- A prefix's addresses as a part. -/
def endsT (p : Pf) : Pt := ⟨p.a, p.a + sz p - 1⟩
theorem endsT_in {p : Pf} (h : G p) : InT (endsT p) := by
  have := h.top
  have := sz_pos p
  unfold InT endsT
  dsimp only
  omega
theorem endsT_is (p : Pf) (x : Nat) : inT (endsT p) x ↔ inP p x := by
  have := sz_pos p
  unfold inT inP endsT
  dsimp only
  omega
def ofT (l : List Pf) : List Pt := l.foldl (fun out p => if good p then addT out (endsT p) else out) []
theorem ofT_take {l : List Pf} {j : Nat} {p : Pf} (h : l[j]? = some p) : ofT (l.take (j + 1)) = if good p then addT (ofT (l.take j)) (endsT p) else ofT (l.take j) := by
  rw [List.take_add_one, h]
  unfold ofT
  rw [List.foldl_append]
  rfl
/-- What the good ones of l have. -/
def hasG (l : List Pf) (x : Nat) : Prop := ∃ p ∈ l, good p = true ∧ inP p x
theorem ofT_is : ∀ (l : List Pf) (out : List Pt), Oks l → Norm out → Norm (l.foldl (fun out p => if good p then addT out (endsT p) else out) out) ∧ (∀ x, hasT (l.foldl (fun out p => if good p then addT out (endsT p) else out) out) x ↔ hasT out x ∨ hasG l x) ∧ (l.foldl (fun out p => if good p then addT out (endsT p) else out) out).length ≤ out.length + l.length
  | [], out, _, hn => by
    refine ⟨hn, fun x => ⟨.inl, ?_⟩, Nat.le_refl _⟩
    rintro (h | ⟨p, hp, _⟩)
    · exact h
    · cases hp
  | p :: l, out, ho, hn => by
    rw [List.foldl_cons]
    have ho2 : Oks l := fun q hq => ho q (List.mem_cons_of_mem _ hq)
    by_cases hg : good p = true
    · rw [if_pos hg]
      obtain ⟨a1, a2, a3⟩ := addT_is hn (endsT_in ⟨hg, (ho p (List.mem_cons_self ..)).1⟩)
      obtain ⟨b1, b2, b3⟩ := ofT_is l (addT out (endsT p)) ho2 a1
      refine ⟨b1, fun x => ?_, by rw [List.length_cons]; omega⟩
      rw [b2, a2, endsT_is]
      constructor
      · rintro ((h | h) | ⟨q, hq, h⟩)
        · exact .inl h
        · exact .inr ⟨p, List.mem_cons_self .., hg, h⟩
        · exact .inr ⟨q, List.mem_cons_of_mem _ hq, h⟩
      · rintro (h | ⟨q, hq, h1, h2⟩)
        · exact .inl (.inl h)
        · rcases List.mem_cons.1 hq with rfl | hq
          · exact .inl (.inr h2)
          · exact .inr ⟨q, hq, h1, h2⟩
    · rw [if_neg hg]
      obtain ⟨b1, b2, b3⟩ := ofT_is l out ho2 hn
      refine ⟨b1, fun x => ?_, by rw [List.length_cons]; omega⟩
      rw [b2]
      constructor
      · rintro (h | ⟨q, hq, h⟩)
        · exact .inl h
        · exact .inr ⟨q, List.mem_cons_of_mem _ hq, h⟩
      · rintro (h | ⟨q, hq, h1, h2⟩)
        · exact .inl h
        · rcases List.mem_cons.1 hq with rfl | hq
          · exact absurd h1 hg
          · exact .inr ⟨q, hq, h1, h2⟩
theorem of_is {l : List Pf} (ho : Oks l) : Norm (ofT l) ∧ (∀ x, hasT (ofT l) x ↔ hasG l x) ∧ (ofT l).length ≤ l.length := by
  obtain ⟨h1, h2, h3⟩ := ofT_is l [] ho Norm.nil
  refine ⟨h1, fun x => ?_, by unfold ofT; simpa using h3⟩
  unfold ofT
  rw [h2]
  have := hasT_nil x
  constructor
  · rintro (h | h)
    · exact absurd h this
    · exact h
  · exact .inr

/-- What two have in common: one of a, then one of b. -/
def capT (p q : Pt) : Pt := ⟨max p.A q.A, min p.B q.B⟩
def bothI (p : Pt) (out : List Pt) (b : List Pt) : List Pt := b.foldl (fun out q => if (capT p q).A ≤ (capT p q).B then addT out (capT p q) else out) out
def bothT (a b : List Pt) : List Pt := a.foldl (fun out p => bothI p out b) []
theorem bothI_take {p : Pt} {out b : List Pt} {j : Nat} {q : Pt} (h : b[j]? = some q) : bothI p out (b.take (j + 1)) = if (capT p q).A ≤ (capT p q).B then addT (bothI p out (b.take j)) (capT p q) else bothI p out (b.take j) := by
  rw [List.take_add_one, h]
  unfold bothI
  rw [List.foldl_append]
  rfl
theorem bothT_take {a b : List Pt} {j : Nat} {p : Pt} (h : a[j]? = some p) : bothT (a.take (j + 1)) b = bothI p (bothT (a.take j) b) b := by
  rw [List.take_add_one, h]
  unfold bothT
  rw [List.foldl_append]
  rfl
theorem bothI_is {p : Pt} (hp : InT p) : ∀ (b out : List Pt), (∀ q ∈ b, InT q) → Norm out → Norm (bothI p out b) ∧ (∀ x, hasT (bothI p out b) x ↔ hasT out x ∨ (inT p x ∧ hasT b x)) ∧ (bothI p out b).length ≤ out.length + b.length
  | [], out, _, hn => by
    refine ⟨hn, fun x => ⟨.inl, ?_⟩, Nat.le_refl _⟩
    rintro (h | h)
    · exact h
    · exact absurd h.2 (hasT_nil x)
  | q :: b, out, hb, hn => by
    have hb2 : ∀ q ∈ b, InT q := fun r hr => hb r (List.mem_cons_of_mem _ hr)
    have hq := hb q (List.mem_cons_self ..)
    have hpq := hp
    unfold InT at hq hpq
    have hc : ∀ x, inT (capT p q) x ↔ inT p x ∧ inT q x := by
      intro x
      unfold inT capT
      dsimp only
      omega
    by_cases h : (capT p q).A ≤ (capT p q).B
    · rw [show bothI p out (q :: b) = bothI p (addT out (capT p q)) b from by unfold bothI; rw [List.foldl_cons, if_pos h]]
      obtain ⟨a1, a2, a3⟩ := addT_is hn (x := capT p q) ⟨h, by unfold capT; dsimp only; omega⟩
      obtain ⟨b1, b2, b3⟩ := bothI_is hp b (addT out (capT p q)) hb2 a1
      refine ⟨b1, fun x => ?_, by rw [List.length_cons]; omega⟩
      rw [b2, a2, hc, hasT_cons]
      constructor
      · rintro ((h | h) | h)
        · exact .inl h
        · exact .inr ⟨h.1, .inl h.2⟩
        · exact .inr ⟨h.1, .inr h.2⟩
      · rintro (h | ⟨h1, h2 | h2⟩)
        · exact .inl (.inl h)
        · exact .inl (.inr ⟨h1, h2⟩)
        · exact .inr ⟨h1, h2⟩
    · rw [show bothI p out (q :: b) = bothI p out b from by unfold bothI; rw [List.foldl_cons, if_neg h]]
      obtain ⟨b1, b2, b3⟩ := bothI_is hp b out hb2 hn
      refine ⟨b1, fun x => ?_, by rw [List.length_cons]; omega⟩
      rw [b2, hasT_cons]
      constructor
      · rintro (h | h)
        · exact .inl h
        · exact .inr ⟨h.1, .inr h.2⟩
      · rintro (h1 | ⟨h1, h2 | h2⟩)
        · exact .inl h1
        · exfalso
          have := (hc x).2 ⟨h1, h2⟩
          unfold inT at this
          omega
        · exact .inr ⟨h1, h2⟩
theorem bothT_is : ∀ (a b out : List Pt), (∀ p ∈ a, InT p) → (∀ q ∈ b, InT q) → Norm out → Norm (a.foldl (fun out p => bothI p out b) out) ∧ (∀ x, hasT (a.foldl (fun out p => bothI p out b) out) x ↔ hasT out x ∨ (hasT a x ∧ hasT b x)) ∧ (a.foldl (fun out p => bothI p out b) out).length ≤ out.length + a.length * b.length
  | [], b, out, _, _, hn => by
    refine ⟨hn, fun x => ⟨.inl, ?_⟩, by simp⟩
    rintro (h | h)
    · exact h
    · exact absurd h.1 (hasT_nil x)
  | p :: a, b, out, ha, hb, hn => by
    rw [List.foldl_cons]
    obtain ⟨a1, a2, a3⟩ := bothI_is (ha p (List.mem_cons_self ..)) b out hb hn
    obtain ⟨b1, b2, b3⟩ := bothT_is a b (bothI p out b) (fun q hq => ha q (List.mem_cons_of_mem _ hq)) hb a1
    refine ⟨b1, fun x => ?_, by rw [List.length_cons, Nat.succ_mul]; omega⟩
    rw [b2, a2, hasT_cons]
    constructor
    · rintro ((h | h) | h)
      · exact .inl h
      · exact .inr ⟨.inl h.1, h.2⟩
      · exact .inr ⟨.inr h.1, h.2⟩
    · rintro (h | ⟨h1 | h1, h2⟩)
      · exact .inl (.inl h)
      · exact .inl (.inr ⟨h1, h2⟩)
      · exact .inr ⟨h1, h2⟩
theorem both_is {a b : List Pt} (ha : ∀ p ∈ a, InT p) (hb : ∀ q ∈ b, InT q) : Norm (bothT a b) ∧ (∀ x, hasT (bothT a b) x ↔ hasT a x ∧ hasT b x) ∧ (bothT a b).length ≤ a.length * b.length := by
  obtain ⟨h1, h2, h3⟩ := bothT_is a b [] ha hb Norm.nil
  refine ⟨h1, fun x => ?_, by unfold bothT; simpa using h3⟩
  unfold bothT
  rw [h2]
  have := hasT_nil x
  constructor
  · rintro (h | h)
    · exact absurd h this
    · exact h
  · exact .inr

/-- All addresses from at on that are in none. -/
def gapT (at_ : Nat) (p : Pt) : List Pt := if at_ < p.A then [⟨at_, p.A - 1⟩] else []
def lastT (at_ : Nat) : List Pt := if at_ < 4294967296 then [⟨at_, 4294967295⟩] else []
def restT : Nat → List Pt → List Pt
  | at_, [] => lastT at_
  | at_, p :: l => gapT at_ p ++ restT (p.B + 1) l
theorem restT_is : ∀ (l : List Pt) (at_ : Nat), Norm l → (∀ p ∈ l, at_ ≤ p.A) → Norm (restT at_ l) ∧ (∀ p ∈ restT at_ l, at_ ≤ p.A) ∧ (∀ x, hasT (restT at_ l) x ↔ (at_ ≤ x ∧ x < 4294967296 ∧ ¬ hasT l x)) ∧ (restT at_ l).length ≤ l.length + 1
  | [], at_, _, _ => by
    unfold restT lastT
    by_cases h : at_ < 4294967296
    · rw [if_pos h]
      refine ⟨norm_one (by unfold InT; dsimp only; omega), fun p hp => by simp at hp; subst hp; exact Nat.le_refl _, fun x => ?_, by simp⟩
      rw [hasT_one]
      have := hasT_nil x
      unfold inT
      dsimp only
      constructor
      · intro h; exact ⟨by omega, by omega, this⟩
      · intro h; omega
    · rw [if_neg h]
      refine ⟨Norm.nil, fun p hp => (by cases hp), fun x => ⟨fun h => absurd h (hasT_nil x), fun h1 => by omega⟩, by simp⟩
  | p :: l, at_, hn, ha => by
    have hn1 : Norm ([p] ++ l) := hn
    have hp := hn.ins p (List.mem_cons_self ..)
    unfold InT at hp
    obtain ⟨b1, b2, b3, b4⟩ := restT_is l (p.B + 1) hn1.right (fun q hq => by have := hn1.mid p (by simp) q hq; omega)
    have hat := ha p (List.mem_cons_self ..)
    have hl : ∀ x, x ≤ p.B → ¬ hasT l x := by
      rintro x hx ⟨q, hq, h⟩
      have := hn1.mid p (by simp) q hq
      unfold inT at h
      omega
    have hset : ∀ x, (p.B + 1 ≤ x ∧ x < 4294967296 ∧ ¬ hasT l x) ↔ (p.B < x ∧ x < 4294967296 ∧ ¬ hasT (p :: l) x) := by
      intro x
      rw [hasT_cons]
      unfold inT
      constructor
      · rintro ⟨h1, h2, h3⟩
        refine ⟨by omega, h2, ?_⟩
        rintro (h | h)
        · omega
        · exact h3 h
      · rintro ⟨h1, h2, h3⟩
        exact ⟨by omega, h2, fun h => h3 (.inr h)⟩
    unfold restT gapT
    by_cases h : at_ < p.A
    · rw [if_pos h]
      refine ⟨norm_append (norm_one (by unfold InT; dsimp only; omega)) b1 ?_, ?_, fun x => ?_, by simp; omega⟩
      · intro q hq r hr
        simp at hq
        subst hq
        have := b2 r hr
        dsimp only
        omega
      · intro q hq
        rcases List.mem_append.1 hq with hq | hq
        · simp at hq
          subst hq
          exact Nat.le_refl _
        · have := b2 q hq
          omega
      · rw [hasT_append, hasT_one, b3, hset]
        have hlx := hl x
        rw [hasT_cons]
        unfold inT
        dsimp only
        constructor
        · rintro (h1 | h1)
          · refine ⟨by omega, by omega, ?_⟩
            rintro (h | h)
            · omega
            · exact hlx (by omega) h
          · exact ⟨by omega, h1.2.1, h1.2.2⟩
        · rintro ⟨h1, h2, h3⟩
          rcases Nat.lt_or_ge x p.A with h4 | h4
          · exact .inl ⟨by omega, by omega⟩
          · refine .inr ⟨?_, h2, h3⟩
            rcases Nat.lt_or_ge p.B x with h5 | h5
            · exact h5
            · exact absurd (.inl ⟨h4, h5⟩) h3
    · rw [if_neg h, List.nil_append]
      refine ⟨b1, fun q hq => by have := b2 q hq; omega, fun x => ?_, by rw [List.length_cons]; omega⟩
      rw [b3, hset, hasT_cons]
      unfold inT
      constructor
      · rintro ⟨h1, h2, h3⟩
        exact ⟨by omega, h2, h3⟩
      · rintro ⟨h1, h2, h3⟩
        refine ⟨?_, h2, h3⟩
        rcases Nat.lt_or_ge p.B x with h5 | h5
        · exact h5
        · exact absurd (.inl ⟨by omega, h5⟩) h3

/-- The prefixes of parts. -/
def pfxT (l : List Pt) : List Pf := l.flatMap (fun p => fillL p.A (p.B + 1))
theorem pfxT_is : ∀ (l : List Pt), Norm l → Canon (pfxT l) ∧ ∀ x, has (pfxT l) x ↔ hasT l x
  | [], _ => ⟨Canon.nil, fun x => ⟨fun h => absurd h (has_nil x), fun h => absurd h (hasT_nil x)⟩⟩
  | p :: l, hn => by
    have hn1 : Norm ([p] ++ l) := hn
    have hp := hn.ins p (List.mem_cons_self ..)
    unfold InT at hp
    obtain ⟨b1, b2⟩ := pfxT_is l hn1.right
    obtain ⟨f1, f2⟩ := fill_in (a := p.A) (e := p.B + 1) (by omega) (by omega)
    rw [show pfxT (p :: l) = fillL p.A (p.B + 1) ++ pfxT l from List.flatMap_cons]
    refine ⟨canon_append (fill_canon (by omega) (by omega)) b1 ?_, fun x => ?_⟩
    · intro q hq r hr
      have := (f1 q hq).2.2
      obtain ⟨t, ht, h⟩ := (b2 r.a).1 ⟨r, hr, inP_self r⟩
      have := hn1.mid p (by simp) t ht
      unfold inT at h
      omega
    · rw [has_append, f2, b2, hasT_cons]
      unfold inT
      constructor
      · rintro (h | h)
        · exact .inl ⟨h.1, by omega⟩
        · exact .inr h
      · rintro (h | h)
        · exact .inl ⟨h.1, by omega⟩
        · exact .inr h
end Go.Proofs.YtgjdpmpbldofpaaDoor.Wlk
