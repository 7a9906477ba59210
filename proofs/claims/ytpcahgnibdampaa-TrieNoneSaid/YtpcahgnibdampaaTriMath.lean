/- Plain mathematics: prefixes in order, each with a number; what is there of them. It speaks of no function of the program. -/
import Derived.Test.YtpcahgnibdampaaPfxRows
import Derived.Test.YtpcahgnibdampaaPfxWalkC
namespace Go.Proofs.Ytpcahgnibdampaa.Tri
open PR Pfx

instance : DecidableEq Pf := fun p q => if h : p.a = q.a ∧ p.n = q.n then isTrue (by
    obtain ⟨a, n⟩ := p
    obtain ⟨b, m⟩ := q
    obtain ⟨h1, h2⟩ := h
    dsimp only at h1 h2
    rw [h1, h2]) else isFalse (fun e => h (by rw [e]; exact ⟨rfl, rfl⟩))
/-- A prefix, and what it has. -/
structure Ent where
  p : Pf
  v : Int
def goodP (p : Pf) : Bool := goodB p.a p.n
def covP (p q : Pf) : Bool := coversB p.a p.n q.a q.n
/-- The order. -/
def ltP (p q : Pf) : Prop := p.a < q.a ∨ p.a = q.a ∧ p.n < q.n
instance (p q : Pf) : Decidable (ltP p q) := by unfold ltP; exact inferInstance
theorem cmp_lt {p q : Pf} : cmpP p.a p.n q.a q.n < 0 ↔ ltP p q := by
  unfold cmpP ltP
  split
  · rename_i h; exact ⟨fun _ => h, fun _ => by decide⟩
  · rename_i h; split <;> exact ⟨fun e => absurd e (by decide), fun e => absurd e h⟩
theorem pf_ext {p q : Pf} (h : p.a = q.a) (h2 : p.n = q.n) : p = q := by
  obtain ⟨a, n⟩ := p
  obtain ⟨b, m⟩ := q
  dsimp only at h h2
  rw [h, h2]
theorem lt_irrefl (p : Pf) : ¬ ltP p p := by unfold ltP; omega
theorem lt_trans {p q r : Pf} (h : ltP p q) (h2 : ltP q r) : ltP p r := by unfold ltP at *; omega
theorem lt_asymm {p q : Pf} (h : ltP p q) : ¬ ltP q p := by unfold ltP at *; omega
theorem lt_tri (p q : Pf) : ltP p q ∨ p = q ∨ ltP q p := by
  unfold ltP
  rcases Nat.lt_trichotomy p.a q.a with h | h | h
  · exact .inl (.inl h)
  · rcases Int.lt_trichotomy p.n q.n with h2 | h2 | h2
    · exact .inl (.inr ⟨h, h2⟩)
    · exact .inr (.inl (pf_ext h h2))
    · exact .inr (.inr (.inr ⟨h.symm, h2⟩))
  · exact .inr (.inr (.inl h))
/-- All in order, each once, all good. -/
def Ord (l : List Ent) : Prop := l.Pairwise (fun x y => ltP x.p y.p)
def keys (l : List Ent) : List Pf := l.map (·.p)
def getE (l : List Ent) (p : Pf) : Option Int := (l.find? (fun e => decide (e.p = p))).map (·.v)
/-- Put where it stands, or at its place. -/
def putE : List Ent → Pf → Int → List Ent
  | [], p, v => [⟨p, v⟩]
  | e :: l, p, v => if e.p = p then ⟨p, v⟩ :: l else if ltP e.p p then e :: putE l p v else ⟨p, v⟩ :: e :: l
def cutE : List Ent → Pf → List Ent
  | [], _ => []
  | e :: l, p => if e.p = p then l else e :: cutE l p
def aboveE (l : List Ent) (p : Pf) : List Pf := (l.filter (fun e => decide (e.p ≠ p) && covP e.p p)).map (·.p)
def belowE (l : List Ent) (p : Pf) : List Pf := (l.filter (fun e => decide (e.p ≠ p) && covP p e.p)).map (·.p)
def shortB : Option Ent → Pf → Bool
  | none, _ => true
  | some x, q => decide (x.p.n < q.n)
/-- The longest one that has an address: the best so far, and what is left. -/
def longE (a : Nat) : Option Ent → List Ent → Option Ent
  | b, [] => b
  | b, e :: l => longE a (if covP e.p ⟨a, 32⟩ && shortB b e.p then some e else b) l
theorem keys_put : ∀ (l : List Ent) (p : Pf) (v : Int) (q : Pf), q ∈ keys (putE l p v) ↔ q = p ∨ q ∈ keys l
  | [], p, v, q => by simp [putE, keys]
  | e :: l, p, v, q => by
    have ih := keys_put l p v q
    unfold putE
    split
    · rename_i h
      simp only [keys, List.map_cons, List.mem_cons, h]
      constructor
      · rintro (h | h)
        · exact .inl h
        · exact .inr (.inr h)
      · rintro (h | h | h)
        · exact .inl h
        · exact .inl h
        · exact .inr h
    · split
      · simp only [keys, List.map_cons, List.mem_cons] at ih ⊢
        rw [ih]
        constructor
        · rintro (h | h | h)
          · exact .inr (.inl h)
          · exact .inl h
          · exact .inr (.inr h)
        · rintro (h | h | h)
          · exact .inr (.inl h)
          · exact .inl h
          · exact .inr (.inr h)
      · simp only [keys, List.map_cons, List.mem_cons]
theorem ord_put : ∀ (l : List Ent) (p : Pf) (v : Int), Ord l → Ord (putE l p v)
  | [], p, v, _ => by simp [putE, Ord]
  | e :: l, p, v, h => by
    unfold Ord at h
    rw [List.pairwise_cons] at h
    obtain ⟨h1, h2⟩ := h
    unfold putE
    split
    · rename_i he
      unfold Ord
      rw [List.pairwise_cons]
      exact ⟨fun y hy => he ▸ h1 y hy, h2⟩
    · rename_i hne
      split
      · rename_i hlt
        unfold Ord
        rw [List.pairwise_cons]
        refine ⟨fun y hy => ?_, ord_put l p v h2⟩
        have hk : y.p ∈ keys (putE l p v) := List.mem_map.2 ⟨y, hy, rfl⟩
        rcases (keys_put l p v y.p).1 hk with e2 | hk
        · rw [e2]; exact hlt
        · obtain ⟨z, hz, e2⟩ := List.mem_map.1 hk
          rw [← e2]; exact h1 z hz
      · rename_i hnl
        have hlt : ltP p e.p := (lt_tri e.p p).resolve_left hnl |>.resolve_left hne
        unfold Ord
        rw [List.pairwise_cons]
        refine ⟨fun y hy => ?_, List.pairwise_cons.2 ⟨h1, h2⟩⟩
        rcases List.mem_cons.1 hy with rfl | hy
        · exact hlt
        · exact lt_trans hlt (h1 y hy)
theorem cut_sub : ∀ (l : List Ent) (p : Pf), (cutE l p).Sublist l
  | [], _ => List.Sublist.slnil
  | e :: l, p => by
    unfold cutE
    split
    · exact List.sublist_cons_self _ _
    · exact (cut_sub l p).cons_cons e
theorem ord_cut (l : List Ent) (p : Pf) (h : Ord l) : Ord (cutE l p) := h.sublist (cut_sub l p)
theorem keys_cut : ∀ (l : List Ent) (p q : Pf), Ord l → (q ∈ keys (cutE l p) ↔ q ∈ keys l ∧ q ≠ p)
  | [], p, q, _ => by simp [cutE, keys]
  | e :: l, p, q, h => by
    have h0 := h
    unfold Ord at h
    rw [List.pairwise_cons] at h
    obtain ⟨h1, h2⟩ := h
    have ih := keys_cut l p q h2
    unfold cutE
    split
    · rename_i he
      have hn : ∀ z ∈ l, z.p ≠ p := fun z hz e2 => lt_irrefl p (by have := h1 z hz; rwa [he, e2] at this)
      simp only [keys, List.map_cons, List.mem_cons]
      constructor
      · intro hq
        obtain ⟨z, hz, e2⟩ := List.mem_map.1 hq
        exact ⟨.inr hq, e2 ▸ hn z hz⟩
      · rintro ⟨h3 | h3, h4⟩
        · exact absurd (h3.trans he) h4
        · exact h3
    · rename_i hne
      simp only [keys, List.map_cons, List.mem_cons] at ih ⊢
      rw [ih]
      constructor
      · rintro (h3 | ⟨h3, h4⟩)
        · exact ⟨.inl h3, fun e2 => hne (h3 ▸ e2)⟩
        · exact ⟨.inr h3, h4⟩
      · rintro ⟨h3 | h3, h4⟩
        · exact .inl h3
        · exact .inr ⟨h3, h4⟩
/-- Rows in order that have the same prefixes have them in the same order. -/
theorem keys_ext : ∀ (l m : List Pf), l.Pairwise ltP → m.Pairwise ltP → (∀ q, q ∈ l ↔ q ∈ m) → l = m
  | [], [], _, _, _ => rfl
  | [], q :: m, _, _, h => by have := (h q).2 List.mem_cons_self; cases this
  | p :: l, [], _, _, h => by have := (h p).1 List.mem_cons_self; cases this
  | p :: l, q :: m, h1, h2, h => by
    rw [List.pairwise_cons] at h1 h2
    have e : p = q := by
      rcases List.mem_cons.1 ((h p).1 List.mem_cons_self) with e | hp
      · exact e
      · rcases List.mem_cons.1 ((h q).2 List.mem_cons_self) with e | hq
        · exact e.symm
        · exact absurd (h1.1 q hq) (lt_asymm (h2.1 p hp))
    subst e
    rw [keys_ext l m h1.2 h2.2 (fun x => ?_)]
    constructor
    · intro hx
      rcases List.mem_cons.1 ((h x).1 (List.mem_cons_of_mem _ hx)) with e | hm
      · exact absurd (h1.1 x hx) (e ▸ lt_irrefl _)
      · exact hm
    · intro hx
      rcases List.mem_cons.1 ((h x).2 (List.mem_cons_of_mem _ hx)) with e | hm
      · exact absurd (h2.1 x hx) (e ▸ lt_irrefl _)
      · exact hm
theorem ord_keys {l : List Ent} (h : Ord l) : (keys l).Pairwise ltP := List.pairwise_map.2 h
theorem get_none {l : List Ent} {p : Pf} : getE l p = none ↔ p ∉ keys l := by
  unfold getE keys
  rw [Option.map_eq_none_iff, List.find?_eq_none]
  constructor
  · intro h hp
    obtain ⟨e, he, e2⟩ := List.mem_map.1 hp
    exact h e he (decide_eq_true e2)
  · intro h e he h2
    exact h (List.mem_map.2 ⟨e, he, of_decide_eq_true h2⟩)
end Go.Proofs.Ytpcahgnibdampaa.Tri
