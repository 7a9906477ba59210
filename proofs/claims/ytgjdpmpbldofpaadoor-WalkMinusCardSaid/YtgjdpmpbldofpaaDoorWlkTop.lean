/- The prefixes that no other one covers; halves merged; what two lists have in common; what is left of one. It speaks of no function of the program. -/
import Derived.Test.YtgjdpmpbldofpaaDoorWlkPart
namespace Go.Proofs.YtgjdpmpbldofpaaDoor.Wlk
open Mem Pfx PR

/-- One more behind those that stand, unless the last one covers it. -/
def topP (out : List Pf) (p : Pf) : List Pf := if out.getLast?.any (fun q => cov q p) then out else out ++ [p]
def topsL (s : List Pf) : List Pf := s.foldl topP []
theorem tops_take {s : List Pf} {j : Nat} {p : Pf} (h : s[j]? = some p) : topsL (s.take (j + 1)) = topP (topsL (s.take j)) p := by
  rw [List.take_add_one, h]
  unfold topsL
  rw [List.foldl_append]
  rfl
theorem last_form {l : List Pf} {q : Pf} (h : l.getLast? = some q) : ∃ m, l = m ++ [q] := by
  rcases List.eq_nil_or_concat l with h1 | ⟨m, b, h1⟩
  · subst h1; simp at h
  · rw [h1] at h
    simp at h
    exact ⟨m, by rw [h1, h]; simp⟩
structure TopI (out s : List Pf) : Prop where
  row : Row1 out
  rising : Rising s
  good : ∀ p ∈ s, G p
  ahead : ∀ t ∈ out, ∀ p ∈ s, PR.ahead t p = true
theorem tops_fold : ∀ (s out : List Pf), TopI out s → Row1 (s.foldl topP out) ∧ (∀ x, has (s.foldl topP out) x ↔ has out x ∨ has s x) ∧
    (∀ p, p ∈ out ∨ p ∈ s → ∃ t ∈ s.foldl topP out, cov t p = true) ∧ (∀ t ∈ s.foldl topP out, t ∈ out ∨ t ∈ s) ∧ (s.foldl topP out).length ≤ out.length + s.length
  | [], out, h => by
    refine ⟨h.row, fun x => ⟨.inl, fun h => h.elim id (fun h => absurd h (has_nil x))⟩, fun p hp => ?_, fun t ht => .inl ht, Nat.le_refl _⟩
    rcases hp with hp | hp
    · exact ⟨p, hp, cov_self (h.row.good p hp)⟩
    · cases hp
  | p :: s, out, h => by
    rw [List.foldl_cons]
    have gp := h.good p (List.mem_cons_self ..)
    have hr := h.rising
    unfold Rising at hr
    rw [List.pairwise_cons] at hr
    have hs2 : ∀ q ∈ s, G q := fun q hq => h.good q (List.mem_cons_of_mem _ hq)
    by_cases hc : out.getLast?.any (fun q => cov q p) = true
    · rw [show topP out p = out from if_pos hc]
      obtain ⟨t, ht, hct⟩ : ∃ t, out.getLast? = some t ∧ cov t p = true := by
        cases hl : out.getLast?
        · rw [hl] at hc; cases hc
        · rw [hl] at hc; exact ⟨_, rfl, hc⟩
      obtain ⟨m, hm⟩ := last_form ht
      have htm : t ∈ out := by rw [hm]; simp
      have gt := h.row.good t htm
      obtain ⟨b1, b2, b3, b4, b5⟩ := tops_fold s out ⟨h.row, hr.2, hs2, fun t ht q hq => h.ahead t ht q (List.mem_cons_of_mem _ hq)⟩
      refine ⟨b1, fun x => ?_, ?_, ?_, by rw [List.length_cons]; omega⟩
      · rw [b2, has_cons]
        constructor
        · rintro (h1 | h1)
          · exact .inl h1
          · exact .inr (.inr h1)
        · rintro (h1 | h1 | h1)
          · exact .inl h1
          · left
            have := (cov_iff gt gp).1 hct
            exact ⟨t, htm, by have := h1.1; omega, by have := h1.2; omega⟩
          · exact .inr h1
      · intro q hq
        rcases hq with hq | hq
        · exact b3 q (.inl hq)
        · rcases List.mem_cons.1 hq with rfl | hq
          · obtain ⟨u, hu, hcu⟩ := b3 t (.inl htm)
            exact ⟨u, hu, cov_trans (b1.good u hu) gt gp hcu hct⟩
          · exact b3 q (.inr hq)
      · intro t ht
        rcases b4 t ht with h1 | h1
        · exact .inl h1
        · exact .inr (List.mem_cons_of_mem _ h1)
    · rw [show topP out p = out ++ [p] from if_neg hc]
      have hap : ∀ t ∈ out, t.a + sz t ≤ p.a := by
        intro t ht
        obtain ⟨z, hz⟩ : ∃ z, out.getLast? = some z := by
          cases hl : out.getLast?
          · have := List.getLast?_eq_none_iff.1 hl
            subst this
            cases ht
          · exact ⟨_, rfl⟩
        obtain ⟨m, hm⟩ := last_form hz
        have hzm : z ∈ out := by rw [hm]; simp
        have gz := h.row.good z hzm
        have hcz : cov z p = false := by
          rw [hz] at hc
          simpa using hc
        have k := ahead_apart gz gp (h.ahead z hzm p (List.mem_cons_self ..)) hcz
        rw [hm] at ht
        rcases List.mem_append.1 ht with ht | ht
        · have := h.row.apart
          rw [hm] at this
          have := (List.pairwise_append.1 this).2.2 t ht z (by simp)
          have := sz_pos z
          omega
        · simp at ht
          subst ht
          exact k
      have row2 : Row1 (out ++ [p]) := row1_append h.row ⟨fun q hq => by simp at hq; subst hq; exact gp, List.pairwise_singleton _ _⟩ (fun t ht q hq => by simp at hq; subst hq; exact hap t ht)
      obtain ⟨b1, b2, b3, b4, b5⟩ := tops_fold s (out ++ [p]) ⟨row2, hr.2, hs2, fun t ht q hq => by
        rcases List.mem_append.1 ht with ht | ht
        · exact h.ahead t ht q (List.mem_cons_of_mem _ hq)
        · simp at ht
          subst ht
          exact hr.1 q hq⟩
      refine ⟨b1, fun x => ?_, ?_, ?_, by rw [List.length_append, List.length_singleton] at b5; rw [List.length_cons]; omega⟩
      · rw [b2, has_append, has_one, has_cons]
        constructor
        · rintro ((h1 | h1) | h1)
          · exact .inl h1
          · exact .inr (.inl h1)
          · exact .inr (.inr h1)
        · rintro (h1 | h1 | h1)
          · exact .inl (.inl h1)
          · exact .inl (.inr h1)
          · exact .inr h1
      · intro q hq
        rcases hq with hq | hq
        · exact b3 q (.inl (List.mem_append.2 (.inl hq)))
        · rcases List.mem_cons.1 hq with rfl | hq
          · exact b3 q (.inl (by simp))
          · exact b3 q (.inr hq)
      · intro t ht
        rcases b4 t ht with h1 | h1
        · rcases List.mem_append.1 h1 with h1 | h1
          · exact .inl h1
          · simp at h1
            subst h1
            exact .inr (List.mem_cons_self ..)
        · exact .inr (List.mem_cons_of_mem _ h1)
theorem tops_is {s : List Pf} (hr : Rising s) (hg : ∀ p ∈ s, G p) : Row1 (topsL s) ∧ (∀ x, has (topsL s) x ↔ has s x) ∧ (∀ p ∈ s, ∃ t ∈ topsL s, cov t p = true) ∧ (∀ t ∈ topsL s, t ∈ s) ∧ (topsL s).length ≤ s.length := by
  obtain ⟨h1, h2, h3, h4, h5⟩ := tops_fold s [] ⟨Row1.nil, hr, hg, fun t ht => (by cases ht)⟩
  refine ⟨h1, fun x => ?_, fun p hp => h3 p (.inr hp), fun t ht => (h4 t ht).elim (fun h => (by cases h)) id, by unfold topsL; simpa using h5⟩
  unfold topsL
  rw [h2]
  have := has_nil x
  constructor
  · rintro (h | h)
    · exact absurd h this
    · exact h
  · exact .inr
/-- Those of a list that no other one of it covers, found one by one. -/
def bare (s : List Pf) (i : Nat) : Bool := (List.range s.length).all (fun k => k == i || !((s[k]?.bind fun q => s[i]?.map fun p => cov q p).getD false))
def barePick (s : List Pf) : Nat → List Pf
  | 0 => []
  | i + 1 => barePick s i ++ (if bare s i then (s[i]?).toList else [])
theorem bare_is {s : List Pf} {i : Nat} {p : Pf} (h : s[i]? = some p) : bare s i = true ↔ ∀ k q, s[k]? = some q → k = i ∨ cov q p = false := by
  unfold bare
  rw [List.all_eq_true]
  constructor
  · intro h1 k q hq
    have := h1 k (List.mem_range.2 (List.getElem?_eq_some_iff.1 hq).1)
    simp [hq, h] at this
    exact this
  · intro h1 k hk
    have hk' := List.mem_range.1 hk
    have := h1 k _ (List.getElem?_eq_getElem hk')
    simp [List.getElem?_eq_getElem hk', h]
    exact this
theorem rising_idx {s : List Pf} (hr : Rising s) {i k : Nat} {p : Pf} (hi : s[i]? = some p) (hk : s[k]? = some p) : i = k := by
  obtain ⟨i1, i2⟩ := List.getElem?_eq_some_iff.1 hi
  obtain ⟨k1, k2⟩ := List.getElem?_eq_some_iff.1 hk
  have hp := List.pairwise_iff_getElem.1 hr
  rcases Nat.lt_trichotomy i k with h | h | h
  · have := hp i k i1 k1 h
    rw [i2, k2, ahead_irrefl] at this
    cases this
  · exact h
  · have := hp k i k1 i1 h
    rw [i2, k2, ahead_irrefl] at this
    cases this
theorem barePick_sub (s : List Pf) : ∀ n, (barePick s n).Sublist (s.take n) ∧ ∀ p, p ∈ barePick s n ↔ ∃ i, i < n ∧ s[i]? = some p ∧ bare s i = true
  | 0 => by
    refine ⟨by simp [barePick], fun p => ⟨fun h => (by cases h), ?_⟩⟩
    rintro ⟨i, h, _⟩
    omega
  | n + 1 => by
    obtain ⟨h1, h2⟩ := barePick_sub s n
    unfold barePick
    rw [List.take_add_one]
    refine ⟨?_, fun p => ?_⟩
    · refine List.Sublist.append h1 ?_
      split
      · exact List.Sublist.refl _
      · exact List.nil_sublist _
    · rw [List.mem_append, h2]
      constructor
      · rintro (⟨i, hi, h⟩ | h)
        · exact ⟨i, by omega, h⟩
        · split at h
          · rename_i hb
            refine ⟨n, by omega, ?_, hb⟩
            simpa using h
          · cases h
      · rintro ⟨i, hi, h3, h4⟩
        rcases Nat.lt_or_eq_of_le (Nat.lt_succ_iff.1 hi) with h5 | h5
        · exact .inl ⟨i, h5, h3, h4⟩
        · subst h5
          right
          rw [if_pos h4, h3]
          simp
theorem bare_tops {s : List Pf} (hr : Rising s) (hg : ∀ p ∈ s, G p) : barePick s s.length = topsL s := by
  obtain ⟨t1, t2, t3, t4, t5⟩ := tops_is hr hg
  obtain ⟨p1, p2⟩ := barePick_sub s s.length
  refine rising_unique (List.Pairwise.sublist p1 (by rw [List.take_length]; exact hr)) t1.rising (fun p => ?_)
  rw [p2]
  constructor
  · rintro ⟨i, hi, h1, h2⟩
    obtain ⟨t, ht, hc⟩ := t3 p (List.mem_of_getElem? h1)
    obtain ⟨k, hk⟩ := List.getElem?_of_mem (t4 t ht)
    rcases (bare_is h1).1 h2 k t hk with h3 | h3
    · subst h3
      rw [h1] at hk
      injection hk with hk
      rw [hk]
      exact ht
    · rw [h3] at hc
      cases hc
  · intro hp
    obtain ⟨i, hi⟩ := List.getElem?_of_mem (t4 p hp)
    refine ⟨i, (List.getElem?_eq_some_iff.1 hi).1, hi, (bare_is hi).2 ?_⟩
    intro k q hq
    have gq := hg q (List.mem_of_getElem? hq)
    have gp := t1.good p hp
    cases hc : cov q p
    · exact .inr rfl
    · left
      obtain ⟨t, ht, hct⟩ := t3 q (List.mem_of_getElem? hq)
      have gt := t1.good t ht
      have h1 := cov_trans gt gq gp hct hc
      have h2 := (cov_iff gt gp).1 h1
      have e : t = p := t1.one ht hp (x := p.a) ⟨h2.1, by have := sz_pos p; omega⟩ (inP_self p)
      subst e
      have := cov_anti gq gt hc hct
      subst this
      exact (rising_idx hr hi hq).symm

/-- Whether q and p are the halves of one prefix. -/
def twinB (q p : Pf) : Bool := decide (ex q = ex p ∧ p.a = q.a + sz q ∧ q.a % 2 ^ (ex q + 1) = 0)
theorem twinB_iff {q p : Pf} : twinB q p = true ↔ Twin q p := by
  unfold twinB Twin
  rw [decide_eq_true_iff]
  constructor
  · rintro ⟨h1, h2, h3⟩
    exact ⟨h1, h2, Nat.dvd_of_mod_eq_zero h3⟩
  · rintro ⟨h1, h2, h3⟩
    exact ⟨h1, h2, Nat.mod_eq_zero_of_dvd h3⟩
def parent (q : Pf) : Pf := mk q.a (ex q + 1)
theorem twin_parent {q p : Pf} (hq : G q) (hp : G p) (h : Twin q p) : G (parent q) ∧ ex q < 32 ∧ sz (parent q) = sz q + sz p ∧ ∀ x, inP (parent q) x ↔ inP q x ∨ inP p x := by
  obtain ⟨h1, h2, h3⟩ := h
  have hlt : ex q < 32 := by
    rcases Nat.lt_or_eq_of_le hq.ex_le with h4 | h4
    · exact h4
    · have e : sz q = 4294967296 := by unfold sz; rw [h4]
      have := hp.2
      omega
  have hs : sz (parent q) = 2 ^ (ex q + 1) := mk_sz (by omega)
  have hsp : sz p = sz q := by unfold sz; rw [h1]
  have hs2 : sz (parent q) = sz q + sz q := by rw [hs, Nat.pow_succ]; unfold sz; omega
  refine ⟨mk_G (by omega) h3 hq.2, hlt, by omega, fun x => ?_⟩
  unfold inP
  rw [hs2, show (parent q).a = q.a from rfl]
  omega
def mrgR : List Pf → Pf → List Pf
  | [], p => [p]
  | q :: m, p => if twinB q p then mrgR m (parent q) else p :: q :: m
/-- p behind those that stand, halves merged. -/
def mrg (m : List Pf) (p : Pf) : List Pf := (mrgR m.reverse p).reverse
theorem mrg_nil (p : Pf) : mrg [] p = [p] := rfl
theorem mrg_twin {m : List Pf} {q p : Pf} (h : twinB q p = true) : mrg (m ++ [q]) p = mrg m (parent q) := by
  unfold mrg
  rw [List.reverse_append]
  show (mrgR (q :: m.reverse) p).reverse = _
  rw [mrgR, if_pos h]
theorem mrg_push {m : List Pf} {q p : Pf} (h : twinB q p = false) : mrg (m ++ [q]) p = m ++ [q] ++ [p] := by
  unfold mrg
  rw [List.reverse_append]
  show (mrgR (q :: m.reverse) p).reverse = _
  rw [mrgR, if_neg (by rw [h]; decide)]
  simp
def mergeL (t : List Pf) : List Pf := t.foldl mrg []
theorem merge_take {s : List Pf} {j : Nat} {p : Pf} (h : s[j]? = some p) : mergeL (s.take (j + 1)) = mrg (mergeL (s.take j)) p := by
  rw [List.take_add_one, h]
  unfold mergeL
  rw [List.foldl_append]
  rfl
theorem twin_self {p : Pf} : ¬ Twin p p := fun h => by
  have := h.2.1
  have := sz_pos p
  omega
theorem canon_one {p : Pf} (h : G p) : Canon [p] := ⟨⟨fun q hq => by simp at hq; subst hq; exact h, List.pairwise_singleton _ _⟩, fun a ha b hb ht => by
  rw [List.mem_singleton] at ha hb
  rw [ha, hb] at ht
  exact twin_self ht⟩
theorem mrg_is : ∀ (n : Nat) (m : List Pf) (p : Pf), m.length ≤ n → Canon m → G p → (∀ q ∈ m, q.a + sz q ≤ p.a) → Canon (mrg m p) ∧ (∀ x, has (mrg m p) x ↔ has m x ∨ inP p x) ∧ (mrg m p).length ≤ m.length + 1 ∧ (∀ q ∈ mrg m p, q.a + sz q ≤ p.a + sz p)
  | n, m, p, hn, hm, hp, ha => by
    rcases List.eq_nil_or_concat m with h | ⟨l, q, h⟩
    · subst h
      rw [mrg_nil]
      refine ⟨canon_one hp, fun x => ?_, by simp, fun q hq => by simp at hq; subst hq; exact Nat.le_refl _⟩
      rw [has_one]
      exact ⟨.inr, fun h => h.elim (fun h => absurd h (has_nil x)) id⟩
    · rw [List.concat_eq_append] at h
      subst h
      have gq := hm.good q (by simp)
      have hl : Canon l := ⟨⟨fun x hx => hm.good x (by simp [hx]), (List.pairwise_append.1 hm.apart).1⟩, fun x hx y hy => hm.whole x (by simp [hx]) y (by simp [hy])⟩
      have hla : ∀ x ∈ l, x.a + sz x ≤ q.a := fun x hx => (List.pairwise_append.1 hm.apart).2.2 x hx q (by simp)
      have hqp := ha q (by simp)
      cases ht : twinB q p
      · rw [mrg_push ht]
        have hnt : ¬ Twin q p := fun h => by rw [twinB_iff.2 h] at ht; cases ht
        refine ⟨⟨row1_append hm.toRow1 (canon_one hp).toRow1 (fun x hx y hy => by simp at hy; subst hy; exact ha x hx), ?_⟩, fun x => ?_, by simp, ?_⟩
        · intro x hx y hy htw
          rcases List.mem_append.1 hx with h1 | h1 <;> rcases List.mem_append.1 hy with h2 | h2
          · exact hm.whole x h1 y h2 htw
          · rw [List.mem_singleton] at h2
            rw [h2] at htw
            rcases List.mem_append.1 h1 with h3 | h3
            · have h1 := hla x h3
              have h2 := htw.2.1
              have := sz_pos q
              omega
            · rw [List.mem_singleton] at h3
              rw [h3] at htw
              exact hnt htw
          · rw [List.mem_singleton] at h1
            rw [h1] at htw
            have h3 := ha y h2
            have h4 := htw.2.1
            have := sz_pos p
            have := sz_pos y
            omega
          · rw [List.mem_singleton] at h1 h2
            rw [h1, h2] at htw
            exact twin_self htw
        · rw [has_append, has_one]
        · intro x hx
          rcases List.mem_append.1 hx with hx | hx
          · have := ha x hx
            have := sz_pos p
            omega
          · simp at hx
            subst hx
            exact Nat.le_refl _
      · rw [mrg_twin ht]
        obtain ⟨g1, g2, g3, g4⟩ := twin_parent gq hp (twinB_iff.1 ht)
        match n with
        | 0 => simp at hn
        | n + 1 =>
          obtain ⟨b1, b2, b3, b4⟩ := mrg_is n l (parent q) (by simp at hn; omega) hl g1 hla
          refine ⟨b1, fun x => ?_, by simp; omega, ?_⟩
          · rw [b2, g4, has_append, has_one]
            constructor
            · rintro (h | h | h)
              · exact .inl (.inl h)
              · exact .inl (.inr h)
              · exact .inr h
            · rintro ((h | h) | h)
              · exact .inl h
              · exact .inr (.inl h)
              · exact .inr (.inr h)
          · intro x hx
            have h1 := b4 x hx
            have h2 := (twinB_iff.1 ht).2.1
            rw [show (parent q).a = q.a from rfl] at h1
            omega
theorem merge_fold : ∀ (t m : List Pf), Canon m → Row1 t → (∀ q ∈ m, ∀ p ∈ t, q.a + sz q ≤ p.a) → Canon (t.foldl mrg m) ∧ (∀ x, has (t.foldl mrg m) x ↔ has m x ∨ has t x) ∧ (t.foldl mrg m).length ≤ m.length + t.length
  | [], m, hm, _, _ => ⟨hm, fun x => ⟨.inl, fun h => h.elim id (fun h => absurd h (has_nil x))⟩, Nat.le_refl _⟩
  | p :: t, m, hm, ht, ha => by
    rw [List.foldl_cons]
    have hp := ht.apart
    rw [List.pairwise_cons] at hp
    obtain ⟨a1, a2, a3, a4⟩ := mrg_is _ m p (Nat.le_refl _) hm (ht.good p (List.mem_cons_self ..)) (fun q hq => ha q hq p (List.mem_cons_self ..))
    obtain ⟨b1, b2, b3⟩ := merge_fold t (mrg m p) a1 ⟨fun q hq => ht.good q (List.mem_cons_of_mem _ hq), hp.2⟩ (fun q hq r hr => by
      have := a4 q hq
      have := hp.1 r hr
      omega)
    refine ⟨b1, fun x => ?_, by rw [List.length_cons]; omega⟩
    rw [b2, a2, has_cons]
    constructor
    · rintro ((h | h) | h)
      · exact .inl h
      · exact .inr (.inl h)
      · exact .inr (.inr h)
    · rintro (h | h | h)
      · exact .inl (.inl h)
      · exact .inl (.inr h)
      · exact .inr h
theorem merge_is {t : List Pf} (ht : Row1 t) : Canon (mergeL t) ∧ (∀ x, has (mergeL t) x ↔ has t x) ∧ (mergeL t).length ≤ t.length := by
  obtain ⟨h1, h2, h3⟩ := merge_fold t [] Canon.nil ht (fun q hq => (by cases hq))
  refine ⟨h1, fun x => ?_, by unfold mergeL; simpa using h3⟩
  unfold mergeL
  rw [h2]
  exact ⟨fun h => h.elim (fun h => absurd h (has_nil x)) id, .inr⟩
end Go.Proofs.YtgjdpmpbldofpaaDoor.Wlk
