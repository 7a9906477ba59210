/- Lists without repetitions side by side; and that sorted so, the good prefixes are what the reference's order makes of them. It speaks of no function of the program. -/
import Derived.Test.YtgjdpmpbldofpaaDoorNlriSortMath
namespace Go.Proofs.YtgjdpmpbldofpaaDoor.PR
open Go.RowKit Mem Pfx

def ddl (acc : List Pf) (p : Pf) : List Pf := if acc.getLast?.any (fun q => sameB p q) then acc else acc ++ [p]
/-- Each one of a row of equals once. -/
def dd (l : List Pf) : List Pf := l.foldl ddl []
theorem sameB_self (p : Pf) : sameB p p = true := sameB_eq.2 rfl
theorem dd_snoc (l : List Pf) (p : Pf) : dd (l ++ [p]) = ddl (dd l) p := by simp [dd]
theorem dd_take {l : List Pf} {j : Nat} {p : Pf} (h : l[j]? = some p) : dd (l.take (j + 1)) = ddl (dd (l.take j)) p := by
  rw [List.take_add_one, h]
  exact dd_snoc _ _
theorem ddl_last (acc : List Pf) (p : Pf) : (ddl acc p).getLast? = some p := by
  unfold ddl
  split
  · rename_i h
    cases hl : acc.getLast? with
    | none => rw [hl] at h; simp at h
    | some q =>
      rw [hl] at h
      have := sameB_eq.1 (by simpa using h)
      rw [this]
  · simp
theorem dd_last {l : List Pf} {j : Nat} {q : Pf} (h : l[j]? = some q) : (dd (l.take (j + 1))).getLast? = some q := by
  rw [dd_take h]
  exact ddl_last _ _
theorem dd_same {l : List Pf} {j : Nat} {p q : Pf} (hq : l[j]? = some q) (hp : l[j + 1]? = some p) (h : sameB p q = true) : dd (l.take (j + 1 + 1)) = dd (l.take (j + 1)) := by
  rw [dd_take hp]
  unfold ddl
  rw [dd_last hq, if_pos (by simpa using h)]
theorem dd_other {l : List Pf} {j : Nat} {p q : Pf} (hq : l[j]? = some q) (hp : l[j + 1]? = some p) (h : sameB p q = false) : dd (l.take (j + 1 + 1)) = dd (l.take (j + 1)) ++ [p] := by
  rw [dd_take hp]
  unfold ddl
  rw [dd_last hq, if_neg (by simp [h])]
theorem dd_short {l : List Pf} (h : l.length < 2) : dd l = l := by
  match l, h with
  | [], _ => rfl
  | [a], _ => rfl
theorem dd_one (l : List Pf) : dd (l.take 1) = l.take 1 := by
  apply dd_short
  rw [List.length_take]
  omega
/-- Each one ahead of all that follow. -/
def Rising (l : List Pf) : Prop := l.Pairwise (fun p q => ahead p q = true)
theorem ahead_iff' {p q : Pf} : ahead p q = true ↔ (p.a < q.a ∨ (p.a = q.a ∧ p.n < q.n)) := by
  unfold ahead cmpP
  rw [decide_eq_true_iff]
  split
  · rename_i h; exact ⟨fun _ => h, fun _ => by decide⟩
  · rename_i h
    split
    · exact ⟨fun h2 => by omega, fun h2 => absurd h2 h⟩
    · exact ⟨fun h2 => by omega, fun h2 => absurd h2 h⟩
theorem not_ahead' {p q : Pf} : ahead p q = false ↔ (q.a < p.a ∨ (p.a = q.a ∧ q.n ≤ p.n)) := by
  rw [← Bool.not_eq_true, ahead_iff']
  omega
theorem ahead_trans {p q r : Pf} (h1 : ahead p q = true) (h2 : ahead q r = true) : ahead p r = true := by
  rw [ahead_iff'] at *; omega
theorem ahead_irrefl (p : Pf) : ahead p p = false := by rw [not_ahead']; omega
theorem rising_unique : ∀ {l m : List Pf}, Rising l → Rising m → (∀ p, p ∈ l ↔ p ∈ m) → l = m
  | [], [], _, _, _ => rfl
  | [], b :: m, _, _, h => by have := (h b).2 (by simp); simp at this
  | a :: l, [], _, _, h => by have := (h a).1 (by simp); simp at this
  | a :: l, b :: m, hl, hm, h => by
    have hl' := List.pairwise_cons.1 hl
    have hm' := List.pairwise_cons.1 hm
    have hab : a = b := by
      rcases List.mem_cons.1 ((h a).1 (by simp)) with e | e
      · exact e
      · rcases List.mem_cons.1 ((h b).2 (by simp)) with e2 | e2
        · exact e2.symm
        · have h1 := hm'.1 a e
          have h2 := hl'.1 b e2
          have h3 := ahead_trans h1 h2
          rw [ahead_irrefl] at h3
          cases h3
    subst hab
    have ht : l = m := rising_unique hl'.2 hm'.2 (fun p => by
      constructor
      · intro hp
        rcases List.mem_cons.1 ((h p).1 (by simp [hp])) with e | e
        · subst e
          have := hl'.1 p hp
          rw [ahead_irrefl] at this
          cases this
        · exact e
      · intro hp
        rcases List.mem_cons.1 ((h p).2 (by simp [hp])) with e | e
        · subst e
          have := hm'.1 p hp
          rw [ahead_irrefl] at this
          cases this
        · exact e)
    rw [ht]
theorem rising_snoc {l : List Pf} {p : Pf} (h : Rising l) (hp : ∀ q ∈ l, ahead q p = true) : Rising (l ++ [p]) :=
  List.pairwise_append.2 ⟨h, by simp, fun q hq r hr => by simp at hr; subst hr; exact hp q hq⟩
/-- What stays of a list in order. -/
theorem dd_rising (l : List Pf) (h : l.Pairwise (fun p q => ahead q p = false)) : ∀ j, j ≤ l.length → Rising (dd (l.take j)) ∧ ∀ p, p ∈ dd (l.take j) ↔ p ∈ l.take j
  | 0, _ => ⟨by simp [dd, Rising], by simp [dd]⟩
  | j + 1, hj => by
    obtain ⟨ih1, ih2⟩ := dd_rising l h j (by omega)
    obtain ⟨p, hp⟩ : ∃ p, l[j]? = some p := ⟨_, List.getElem?_eq_getElem (by omega)⟩
    have hmem : ∀ r, r ∈ l.take (j + 1) ↔ r ∈ l.take j ∨ r = p := fun r => by
      rw [List.take_add_one, hp]; simp
    have hle : ∀ q ∈ l.take j, ahead p q = false := fun q hq => by
      obtain ⟨i, hi, rfl⟩ := List.mem_take_iff_getElem.1 hq
      have := (List.pairwise_iff_getElem.1 h) i j (by omega) (by omega) (by omega)
      have e : l[j] = p := by rw [List.getElem?_eq_getElem (by omega)] at hp; injection hp
      rw [e] at this
      exact this
    rw [dd_take hp]
    unfold ddl
    split
    · rename_i hc
      refine ⟨ih1, fun r => ?_⟩
      rw [ih2, hmem]
      constructor
      · exact .inl
      · rintro (hr | rfl)
        · exact hr
        · cases hl : (dd (l.take j)).getLast? with
          | none => rw [hl] at hc; simp at hc
          | some q =>
            rw [hl] at hc
            have e := sameB_eq.1 (by simpa using hc)
            rw [e]
            exact (ih2 q).1 (List.mem_of_getLast? hl)
    · rename_i hc
      refine ⟨rising_snoc ih1 fun q hq => ?_, fun r => ?_⟩
      · have hq2 := (ih2 q).1 hq
        have h1 := hle q hq2
        by_cases he : q = p
        · subst he
          exfalso
          apply hc
          -- the last one is not behind it, and it is not behind the last one
          cases hl : (dd (l.take j)).getLast? with
          | none =>
            rw [List.getLast?_eq_none_iff] at hl
            rw [hl] at hq
            simp at hq
          | some z =>
            have hz := List.mem_of_getLast? hl
            have hz2 := hle z ((ih2 z).1 hz)
            simp only [Option.any_some]
            obtain ⟨ini, hini⟩ := List.getLast?_eq_some_iff.1 hl
            rw [hini] at hq ih1
            rcases List.mem_append.1 hq with hq3 | hq3
            · have := (List.pairwise_append.1 ih1).2.2 q hq3 z (by simp)
              rw [hz2] at this
              cases this
            · simp at hq3
              rw [hq3]
              exact sameB_self _
        · rw [not_ahead'] at h1
          rw [ahead_iff']
          rcases h1 with h1 | ⟨h1, h2⟩
          · exact .inl h1
          · refine .inr ⟨h1.symm, ?_⟩
            have : q.n ≠ p.n := fun e => he (by
              obtain ⟨qa, qn⟩ := q
              obtain ⟨pa, pn⟩ := p
              simp at h1 e
              simp [h1, e])
            omega
      · rw [hmem, ← ih2]
        simp
/-- The reference's order. -/
theorem insP_rising {out : List Pf} {p : Pf} (h : Rising out) : Rising (insP out p) ∧ ∀ r, r ∈ insP out p ↔ r ∈ out ∨ (r = p ∧ good p = true) := by
  have hsplit : ∀ (out : List Pf), Rising out → (∀ q ∈ out.take (placeP out p), ahead q p = true) ∧ ∀ q ∈ out.drop (placeP out p), ahead q p = false := by
    intro out
    induction out with
    | nil => intro _; simp
    | cons a out ih =>
      intro hr
      have hr' := List.pairwise_cons.1 hr
      by_cases ha : ahead a p = true
      · have e : placeP (a :: out) p = placeP out p + 1 := by simp [placeP, List.takeWhile, ha]
        rw [e]
        obtain ⟨i1, i2⟩ := ih hr'.2
        refine ⟨fun q hq => ?_, fun q hq => i2 q (by simpa using hq)⟩
        rw [List.take_succ_cons] at hq
        rcases List.mem_cons.1 hq with rfl | hq
        · exact ha
        · exact i1 q hq
      · have hf : ahead a p = false := by simpa using ha
        have e : placeP (a :: out) p = 0 := by simp [placeP, List.takeWhile, hf]
        rw [e]
        refine ⟨by simp, fun q hq => ?_⟩
        rw [List.drop_zero] at hq
        rcases List.mem_cons.1 hq with rfl | hq
        · exact hf
        · have h1 := hr'.1 q hq
          rw [not_ahead'] at hf ⊢
          rw [ahead_iff'] at h1
          omega
  obtain ⟨s1, s2⟩ := hsplit out h
  cases hg : good p with
  | false =>
    rw [insP_bad hg]
    exact ⟨h, fun r => by simp⟩
  | true =>
    cases hs : standsAt out (placeP out p) p with
    | true =>
      rw [insP_old rfl hs]
      refine ⟨h, fun r => ⟨.inl, ?_⟩⟩
      rintro (hr | ⟨rfl, _⟩)
      · exact hr
      · unfold standsAt at hs
        split at hs
        · rename_i q hq
          have := sameB_eq.1 hs
          subst this
          exact List.mem_of_getElem? hq
        · cases hs
    | false =>
      rw [insP_new hg rfl hs]
      have hdrop : ∀ q ∈ out.drop (placeP out p), ahead p q = true := fun q hq => by
        have h1 := s2 q hq
        by_cases he : q = p
        · exfalso
          subst he
          -- it would stand first there
          cases hd : out.drop (placeP out q) with
          | nil => rw [hd] at hq; simp at hq
          | cons z rest =>
            have hz : out[placeP out q]? = some z := by
              have := congrArg (fun x => x[0]?) hd
              simpa [List.getElem?_drop] using this
            have hrise : Rising (z :: rest) := by
              rw [← hd]
              exact List.Pairwise.sublist (List.drop_sublist _ _) h
            rw [hd] at hq
            rcases List.mem_cons.1 hq with e | e
            · rw [stands_some hz, ← e, sameB_self] at hs
              cases hs
            · have h2 := (List.pairwise_cons.1 hrise).1 q e
              have h3 := s2 z (by rw [hd]; simp)
              rw [h2] at h3
              cases h3
        · rw [not_ahead'] at h1
          rw [ahead_iff']
          rcases h1 with h1 | ⟨h1, h2⟩
          · exact .inl h1
          · refine .inr ⟨h1.symm, ?_⟩
            have : q.n ≠ p.n := fun e => he (by
              obtain ⟨qa, qn⟩ := q
              obtain ⟨pa, pn⟩ := p
              simp at h1 e
              simp [h1, e])
            omega
      refine ⟨?_, fun r => ?_⟩
      · refine List.pairwise_append.2 ⟨List.Pairwise.sublist (List.take_sublist _ _) h, List.pairwise_cons.2 ⟨hdrop, List.Pairwise.sublist (List.drop_sublist _ _) h⟩, fun x hx y hy => ?_⟩
        rcases List.mem_cons.1 hy with rfl | hy
        · exact s1 x hx
        · exact ahead_trans (s1 x hx) (hdrop y hy)
      · have hm : r ∈ out ↔ r ∈ out.take (placeP out p) ∨ r ∈ out.drop (placeP out p) := by
          conv => lhs; rw [← List.take_append_drop (placeP out p) out]
          exact List.mem_append
        rw [hm, List.mem_append, List.mem_cons]
        constructor
        · rintro (h1 | rfl | h1)
          · exact .inl (.inl h1)
          · exact .inr ⟨rfl, rfl⟩
          · exact .inl (.inr h1)
        · rintro ((h1 | h1) | ⟨rfl, _⟩)
          · exact .inl h1
          · exact .inr (.inr h1)
          · exact .inr (.inl rfl)
theorem sortP_rising : ∀ (l : List Pf) (out : List Pf), Rising out → Rising (l.foldl insP out) ∧ ∀ r, r ∈ l.foldl insP out ↔ r ∈ out ∨ (r ∈ l ∧ good r = true)
  | [], out, h => ⟨h, fun r => by simp⟩
  | p :: l, out, h => by
    obtain ⟨h1, h2⟩ := insP_rising (p := p) h
    obtain ⟨h3, h4⟩ := sortP_rising l (insP out p) h1
    refine ⟨h3, fun r => ?_⟩
    rw [List.foldl_cons, h4, h2, List.mem_cons]
    constructor
    · rintro ((h | ⟨rfl, h⟩) | ⟨h, k⟩)
      · exact .inl h
      · exact .inr ⟨.inl rfl, h⟩
      · exact .inr ⟨.inr h, k⟩
    · rintro (h | ⟨rfl | h, k⟩)
      · exact .inl (.inl h)
      · exact .inl (.inr ⟨rfl, k⟩)
      · exact .inr ⟨h, k⟩
/-- THE SAME: sorted, each once, and the reference's order. -/
theorem dd_sortP {l L : List Pf} (hp : L.Perm (l.filter (fun p => good p))) (hs : L.Pairwise (fun p q => ahead q p = false)) : dd L = sortP l := by
  obtain ⟨h1, h2⟩ := dd_rising L hs L.length (Nat.le_refl _)
  rw [List.take_length] at h1 h2
  obtain ⟨h3, h4⟩ := sortP_rising l [] List.Pairwise.nil
  refine rising_unique h1 h3 fun p => ?_
  rw [h2, hp.mem_iff, List.mem_filter]
  show _ ↔ p ∈ l.foldl insP []
  rw [h4]
  simp
theorem dd_sub (L : List Pf) : ∀ p ∈ dd L, p ∈ L := by
  have h : ∀ (l acc : List Pf), ∀ p ∈ l.foldl ddl acc, p ∈ acc ∨ p ∈ l := by
    intro l
    induction l with
    | nil => intro acc p hp; exact .inl hp
    | cons a l ih =>
      intro acc p hp
      rcases ih _ p hp with h | h
      · unfold ddl at h
        split at h
        · exact .inl h
        · rcases List.mem_append.1 h with h | h
          · exact .inl h
          · simp at h; subst h; exact .inr (by simp)
      · exact .inr (by simp [h])
  intro p hp
  rcases h L [] p hp with h | h
  · simp at h
  · exact h
end Go.Proofs.YtgjdpmpbldofpaaDoor.PR
