/- What two lists of prefixes have in common, step by step; what is left of one. It speaks of no function of the program. -/
import Derived.Test.YtgjdpmpbldofpaaDoorWlkTop
namespace Go.Proofs.YtgjdpmpbldofpaaDoor.Wlk
open Mem Pfx PR

def bothL : List Pf → List Pf → List Pf
  | [], _ => []
  | _ :: _, [] => []
  | p :: a, q :: b =>
    if cov p q = true then q :: bothL (p :: a) b
    else if cov q p = true then p :: bothL a (q :: b)
    else if PR.ahead p q = true then bothL a (q :: b)
    else bothL (p :: a) b
termination_by a b => a.length + b.length
decreasing_by all_goals simp only [List.length_cons]; omega
theorem both_nil_l (b : List Pf) : bothL [] b = [] := by rw [bothL]
theorem both_nil_r (a : List Pf) : bothL a [] = [] := by cases a <;> rw [bothL]
theorem both_go (p q : Pf) (a b : List Pf) : bothL (p :: a) (q :: b) = if cov p q = true then q :: bothL (p :: a) b else if cov q p = true then p :: bothL a (q :: b) else if PR.ahead p q = true then bothL a (q :: b) else bothL (p :: a) b := by rw [bothL]

theorem Row1.tail {p : Pf} {l : List Pf} (h : Row1 (p :: l)) : Row1 l := ⟨fun q hq => h.good q (List.mem_cons_of_mem _ hq), (List.pairwise_cons.1 h.apart).2⟩
theorem Row1.head {p : Pf} {l : List Pf} (h : Row1 (p :: l)) : ∀ q ∈ l, p.a + sz p ≤ q.a := (List.pairwise_cons.1 h.apart).1
theorem not_ahead_swap {p q : Pf} (hp : G p) (hq : G q) (h1 : cov p q = false) (h2 : PR.ahead p q ≠ true) : PR.ahead q p = true := by
  have h3 : PR.ahead p q = false := by simpa using h2
  rw [not_ahead'] at h3
  rw [ahead_iff']
  rcases h3 with h3 | ⟨h3, h4⟩
  · exact .inl h3
  · rcases Int.lt_or_eq_of_le h4 with h5 | h5
    · exact .inr ⟨h3.symm, h5⟩
    · exfalso
      have : p = q := by cases p; cases q; simp_all
      subst this
      rw [cov_self hp] at h1
      cases h1
/-- Each of what two have in common is one of one list, within one of the other list. -/
def From2 (a b : List Pf) (r : Pf) : Prop := (r ∈ a ∧ ∃ q ∈ b, cov q r = true) ∨ (r ∈ b ∧ ∃ p ∈ a, cov p r = true)
theorem From2.up {a a' b b' : List Pf} {r : Pf} (h : From2 a b r) (ha : ∀ p ∈ a, p ∈ a') (hb : ∀ p ∈ b, p ∈ b') : From2 a' b' r := by
  rcases h with ⟨h1, q, h2, h3⟩ | ⟨h1, q, h2, h3⟩
  · exact .inl ⟨ha _ h1, q, hb _ h2, h3⟩
  · exact .inr ⟨hb _ h1, q, ha _ h2, h3⟩
theorem From2.good {a b : List Pf} (ha : Row1 a) (hb : Row1 b) {r : Pf} (h : From2 a b r) : G r := by
  rcases h with ⟨h1, _⟩ | ⟨h1, _⟩
  · exact ha.good r h1
  · exact hb.good r h1
theorem cov_in {p q : Pf} (hp : G p) (hq : G q) (h : cov p q = true) {x : Nat} (hx : inP q x) : inP p x := by
  have := (cov_iff hp hq).1 h
  unfold inP at hx ⊢
  omega
theorem From2.in_ {a b : List Pf} (ha : Row1 a) (hb : Row1 b) {r : Pf} (h : From2 a b r) {x : Nat} (hx : inP r x) : has a x ∧ has b x := by
  rcases h with ⟨h1, q, h2, h3⟩ | ⟨h1, q, h2, h3⟩
  · exact ⟨⟨r, h1, hx⟩, ⟨q, h2, cov_in (hb.good q h2) (ha.good r h1) h3 hx⟩⟩
  · exact ⟨⟨q, h2, cov_in (ha.good q h2) (hb.good r h1) h3 hx⟩, ⟨r, h1, hx⟩⟩
theorem both_row : ∀ (n : Nat) (a b : List Pf), a.length + b.length ≤ n → Row1 a → Row1 b → Row1 (bothL a b) ∧ (∀ r ∈ bothL a b, From2 a b r) ∧ (∀ x, has (bothL a b) x ↔ has a x ∧ has b x)
  | n, [], b, _, _, _ => by
    rw [both_nil_l]
    exact ⟨Row1.nil, fun r hr => (by cases hr), fun x => ⟨fun h => absurd h (has_nil x), fun h => absurd h.1 (has_nil x)⟩⟩
  | n, p :: a, [], _, _, _ => by
    rw [both_nil_r]
    exact ⟨Row1.nil, fun r hr => (by cases hr), fun x => ⟨fun h => absurd h (has_nil x), fun h => absurd h.2 (has_nil x)⟩⟩
  | 0, p :: a, q :: b, h, _, _ => by simp at h
  | n + 1, p :: a, q :: b, hn, ha, hb => by
    have gp := ha.good p (List.mem_cons_self ..)
    have gq := hb.good q (List.mem_cons_self ..)
    have sp := sz_pos p
    have sq := sz_pos q
    rw [both_go]
    simp only [List.length_cons] at hn
    by_cases h1 : cov p q = true
    · rw [if_pos h1]
      obtain ⟨k1, k2, k3⟩ := both_row n (p :: a) b (by simp only [List.length_cons]; omega) ha hb.tail
      refine ⟨⟨?_, ?_⟩, ?_, fun x => ?_⟩
      · intro r hr
        rcases List.mem_cons.1 hr with rfl | hr
        · exact gq
        · exact k1.good r hr
      · rw [List.pairwise_cons]
        refine ⟨fun r hr => ?_, k1.apart⟩
        have hh := ((k2 r hr).in_ ha hb.tail (inP_self r)).2
        obtain ⟨t, ht, hx⟩ := hh
        have := hb.head t ht
        have := hx.1
        omega
      · intro r hr
        rcases List.mem_cons.1 hr with rfl | hr
        · exact .inr ⟨List.mem_cons_self .., p, List.mem_cons_self .., h1⟩
        · exact (k2 r hr).up (fun _ h => h) (fun _ h => List.mem_cons_of_mem _ h)
      · rw [has_cons, k3, has_cons q b]
        constructor
        · rintro (h | h)
          · exact ⟨⟨p, List.mem_cons_self .., cov_in gp gq h1 h⟩, .inl h⟩
          · exact ⟨h.1, .inr h.2⟩
        · rintro ⟨h2, h | h⟩
          · exact .inl h
          · exact .inr ⟨h2, h⟩
    rw [if_neg h1]
    have h1' : cov p q = false := by simpa using h1
    by_cases h2 : cov q p = true
    · rw [if_pos h2]
      obtain ⟨k1, k2, k3⟩ := both_row n a (q :: b) (by simp only [List.length_cons]; omega) ha.tail hb
      refine ⟨⟨?_, ?_⟩, ?_, fun x => ?_⟩
      · intro r hr
        rcases List.mem_cons.1 hr with rfl | hr
        · exact gp
        · exact k1.good r hr
      · rw [List.pairwise_cons]
        refine ⟨fun r hr => ?_, k1.apart⟩
        have hh := ((k2 r hr).in_ ha.tail hb (inP_self r)).1
        obtain ⟨t, ht, hx⟩ := hh
        have := ha.head t ht
        have := hx.1
        omega
      · intro r hr
        rcases List.mem_cons.1 hr with rfl | hr
        · exact .inl ⟨List.mem_cons_self .., q, List.mem_cons_self .., h2⟩
        · exact (k2 r hr).up (fun _ h => List.mem_cons_of_mem _ h) (fun _ h => h)
      · rw [has_cons, k3, has_cons p a]
        constructor
        · rintro (h | h)
          · exact ⟨.inl h, ⟨q, List.mem_cons_self .., cov_in gq gp h2 h⟩⟩
          · exact ⟨.inr h.1, h.2⟩
        · rintro ⟨h | h, h3⟩
          · exact .inl h
          · exact .inr ⟨h, h3⟩
    rw [if_neg h2]
    have h2' : cov q p = false := by simpa using h2
    by_cases h3 : PR.ahead p q = true
    · rw [if_pos h3]
      have hap := ahead_apart gp gq h3 h1'
      obtain ⟨k1, k2, k3⟩ := both_row n a (q :: b) (by simp only [List.length_cons]; omega) ha.tail hb
      refine ⟨k1, fun r hr => (k2 r hr).up (fun _ h => List.mem_cons_of_mem _ h) (fun _ h => h), fun x => ?_⟩
      rw [k3, has_cons p a]
      constructor
      · exact fun h => ⟨.inr h.1, h.2⟩
      · rintro ⟨h | h, t, ht, h4⟩
        · exfalso
          have := h.2
          have := h4.1
          rcases List.mem_cons.1 ht with rfl | ht
          · omega
          · have := hb.head t ht
            omega
        · exact ⟨h, t, ht, h4⟩
    · rw [if_neg h3]
      have hap := ahead_apart gq gp (not_ahead_swap gp gq h1' h3) h2'
      obtain ⟨k1, k2, k3⟩ := both_row n (p :: a) b (by simp only [List.length_cons]; omega) ha hb.tail
      refine ⟨k1, fun r hr => (k2 r hr).up (fun _ h => h) (fun _ h => List.mem_cons_of_mem _ h), fun x => ?_⟩
      rw [k3, has_cons q b]
      constructor
      · exact fun h => ⟨h.1, .inr h.2⟩
      · rintro ⟨⟨t, ht, h4⟩, h | h⟩
        · exfalso
          have := h.2
          have := h4.1
          rcases List.mem_cons.1 ht with rfl | ht
          · omega
          · have := ha.head t ht
            omega
        · exact ⟨⟨t, ht, h4⟩, h⟩
/-- Of the halves of one prefix the first lies in whatever larger one the second does. -/
theorem twin_up {r s q : Pf} (hr : G r) (hs : G s) (hq : G q) (ht : Twin r s) :
    (cov q r = true → q = r ∨ cov q s = true) ∧ (cov q s = true → q = s ∨ cov q r = true) := by
  obtain ⟨g1, g2, g3, g4⟩ := twin_parent hr hs ht
  have hex : ex (parent r) = ex r + 1 := mk_ex (by omega)
  have key : ∀ t, G t → ex t = ex r → (∀ x, inP t x → inP (parent r) x) → cov q t = true → q = t ∨ ∀ u, G u → (∀ x, inP u x → inP (parent r) x) → cov q u = true := by
    intro t gt et ht hc
    have h1 := (cov_iff hq gt).1 hc
    by_cases he : ex q ≤ ex t
    · left
      have : sz q ≤ sz t := pow_mono he
      have := sz_pos t
      refine hq.ext gt (by omega) (Nat.le_antisymm he (pow_ge (show sz t ≤ sz q by omega)))
    · right
      intro u gu hu
      have hin := ht t.a (inP_self t)
      have hn := nest hq g1 (y := t.a) (by omega) ⟨h1.1, by have := sz_pos t; omega⟩ hin
      rw [cov_iff hq gu]
      have k1 := hu u.a (inP_self u)
      have su := sz_pos u
      have k2 := hu (u.a + sz u - 1) ⟨by omega, by omega⟩
      unfold inP at k1 k2
      omega
  constructor
  · intro hc
    rcases key r hr rfl (fun x hx => (g4 x).2 (.inl hx)) hc with h | h
    · exact .inl h
    · exact .inr (h s hs (fun x hx => (g4 x).2 (.inr hx)))
  · intro hc
    rcases key s hs ht.1.symm (fun x hx => (g4 x).2 (.inr hx)) hc with h | h
    · exact .inl h
    · exact .inr (h r hr (fun x hx => (g4 x).2 (.inl hx)))
theorem both_canon {a b : List Pf} (ha : Canon a) (hb : Canon b) : Canon (bothL a b) ∧ ∀ x, has (bothL a b) x ↔ has a x ∧ has b x := by
  obtain ⟨k1, k2, k3⟩ := both_row _ a b (Nat.le_refl _) ha.toRow1 hb.toRow1
  refine ⟨⟨k1, ?_⟩, k3⟩
  intro r hr s hs ht
  have gr := k1.good r hr
  have gs := k1.good s hs
  have hne : r ≠ s := fun e => by rw [e] at ht; exact twin_self ht
  -- both in l, or one in l and the other one in m
  have mixed : ∀ (l m : List Pf), Canon l → Canon m → r ∈ l → s ∈ m → (∃ q ∈ m, cov q r = true) → False := by
    rintro l m hl hm hrl hsm ⟨q, hq, hc⟩
    have gq := hm.good q hq
    rcases (twin_up gr gs gq ht).1 hc with e | e
    · subst e
      exact hm.whole q hq s hsm ht
    · have h1 := (cov_iff gq gs).1 e
      have ss := sz_pos s
      have e2 : q = s := hm.one hq hsm (x := s.a) ⟨h1.1, by omega⟩ (inP_self s)
      subst e2
      have h2 := (cov_iff gq gr).1 hc
      have := ht.2.1
      have := sz_pos r
      omega
  rcases k2 r hr with ⟨r1, r2⟩ | ⟨r1, r2⟩ <;> rcases k2 s hs with ⟨s1, s2⟩ | ⟨s1, s2⟩
  · exact ha.whole r r1 s s1 ht
  · exact mixed a b ha hb r1 s1 r2
  · exact mixed b a hb ha r1 s1 r2
  · exact hb.whole r r1 s s1 ht

/-- What is left from first to e behind those of Q. -/
def leftL : Nat → Nat → List Pf → List Pf
  | f, e, [] => fillL f e
  | f, e, q :: Q => fillL f q.a ++ if q.a + sz q = e then [] else leftL (q.a + sz q) e Q
theorem left_is : ∀ (Q : List Pf) (f e : Nat), Row1 Q → (∀ q ∈ Q, f ≤ q.a ∧ q.a + sz q ≤ e) → f ≤ e → e ≤ 4294967296 →
    Canon (leftL f e Q) ∧ (∀ p ∈ leftL f e Q, f ≤ p.a) ∧ ∀ x, has (leftL f e Q) x ↔ (f ≤ x ∧ x < e ∧ ¬ has Q x)
  | [], f, e, _, _, hfe, he => by
    obtain ⟨h1, h2⟩ := fill_in hfe he
    refine ⟨fill_canon hfe he, fun p hp => (h1 p hp).2.1, fun x => ?_⟩
    unfold leftL
    rw [h2]
    have := has_nil x
    exact ⟨fun h => ⟨h.1, h.2, this⟩, fun h => ⟨h.1, h.2.1⟩⟩
  | q :: Q, f, e, hr, hq, hfe, he => by
    have gq := hr.good q (List.mem_cons_self ..)
    have sq := sz_pos q
    obtain ⟨q1, q2⟩ := hq q (List.mem_cons_self ..)
    obtain ⟨h1, h2⟩ := fill_in (a := f) (e := q.a) q1 (by omega)
    have hc := fill_canon (a := f) (e := q.a) q1 (by omega)
    unfold leftL
    by_cases hend : q.a + sz q = e
    · rw [if_pos hend, List.append_nil]
      refine ⟨hc, fun p hp => (h1 p hp).2.1, fun x => ?_⟩
      rw [h2, has_cons]
      constructor
      · rintro ⟨h3, h4⟩
        refine ⟨h3, by omega, ?_⟩
        rintro (h | ⟨t, ht, h⟩)
        · have := h.1
          omega
        · have := hr.head t ht
          have := h.1
          omega
      · rintro ⟨h3, h4, h5⟩
        refine ⟨h3, ?_⟩
        rcases Nat.lt_or_ge x q.a with h | h
        · exact h
        · exact absurd (.inl ⟨h, by omega⟩) h5
    · rw [if_neg hend]
      obtain ⟨b1, b2, b3⟩ := left_is Q (q.a + sz q) e hr.tail (fun r hr2 => ⟨hr.head r hr2, (hq r (List.mem_cons_of_mem _ hr2)).2⟩) q2 he
      refine ⟨canon_append hc b1 ?_, ?_, fun x => ?_⟩
      · intro p hp r hr2
        have := (h1 p hp).2.2
        have := b2 r hr2
        omega
      · intro p hp
        rcases List.mem_append.1 hp with hp | hp
        · exact (h1 p hp).2.1
        · have := b2 p hp
          omega
      · rw [has_append, h2, b3, has_cons]
        constructor
        · rintro (⟨h3, h4⟩ | ⟨h3, h4, h5⟩)
          · refine ⟨h3, by omega, ?_⟩
            rintro (h | ⟨t, ht, h⟩)
            · have := h.1
              omega
            · have := hr.head t ht
              have := h.1
              omega
          · refine ⟨by omega, h4, ?_⟩
            rintro (h | h)
            · have := h.2
              omega
            · exact h5 h
        · rintro ⟨h3, h4, h5⟩
          rcases Nat.lt_or_ge x q.a with h | h
          · exact .inl ⟨h3, h⟩
          · refine .inr ⟨?_, h4, fun h6 => h5 (.inr h6)⟩
            rcases Nat.lt_or_ge x (q.a + sz q) with h7 | h7
            · exact absurd (.inl ⟨h, h7⟩) h5
            · exact h7
end Go.Proofs.YtgjdpmpbldofpaaDoor.Wlk
