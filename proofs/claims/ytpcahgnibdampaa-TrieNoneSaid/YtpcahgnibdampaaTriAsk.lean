/- Plain mathematics: what covers a prefix in a tree, what it covers, and the longest one that has an address. It speaks of no function of the program. -/
import Derived.Test.YtpcahgnibdampaaTriCut
namespace Go.Proofs.Ytpcahgnibdampaa.Tri
open PR Pfx

theorem cov_is {p q : Pf} (hp : goodP p = true) (hq : goodP q = true) : covP p q = decide (Cov p q) := by
  unfold covP coversB hasB
  unfold goodP at hp hq
  rw [hp, hq, Bool.true_and, Bool.true_and, ← Bool.decide_and]
  exact decide_eq_decide.2 Iff.rfl
theorem cov_trans {p q r : Pf} (hp : goodP p = true) (hq : goodP q = true) (h : Cov p q) (h2 : Cov q r) : Cov p r := by
  have l1 := good_len hp
  have l2 := good_len hq
  refine ⟨Int.le_trans h.1 h2.1, ?_⟩
  rw [← cutN_cutN r.a q.n.toNat p.n.toNat (by have := h.1; omega) (by omega), h2.2, h.2]
/-- What covers a prefix lies on its side. -/
theorem cov_bit {q e p : Pf} (hq : goodP q = true) (he : goodP e = true) (h : q.n < e.n) (h2 : Cov e p) : bitOf q p = bitOf q e := by
  have l1 := good_len hq
  have l2 := good_len he
  unfold bitOf
  rw [← h2.2, bit_cut p.a e.n.toNat q.n.toNat (by omega) (by omega)]
theorem cov_self {p : Pf} (h : goodP p = true) : Cov p p := ⟨Int.le_refl _, good_cut h⟩
theorem cov_anti {p q : Pf} (hq : goodP q = true) (h : Cov p q) (h2 : Cov q p) : p = q := by
  by_cases e : p = q
  · exact e
  · exact absurd h2 (not_cov_of h e hq)
def aboveT : Tr → Pf → List Pf
  | .nil, _ => []
  | .node q x a b, p => if q ≠ p ∧ Cov q p then keys (topE q x) ++ (if bitOf q p = 0 then aboveT a p else aboveT b p) else []
theorem above_app (l m : List Ent) (p : Pf) : aboveE (l ++ m) p = aboveE l p ++ aboveE m p := by unfold aboveE; rw [List.filter_append, List.map_append]
theorem above_nil {l : List Ent} {p : Pf} (h : ∀ e ∈ l, e.p ≠ p → covP e.p p = false) : aboveE l p = [] := by
  unfold aboveE
  rw [List.map_eq_nil_iff, List.filter_eq_nil_iff]
  intro e he h2
  simp only [Bool.and_eq_true, decide_eq_true_eq] at h2
  rw [h e he h2.1] at h2
  cases h2.2
theorem above_top {q p : Pf} {x : Option Int} (hne : q ≠ p) (h : covP q p = true) : aboveE (topE q x) p = keys (topE q x) := by
  cases x with
  | none => rfl
  | some y => simp [aboveE, topE, keys, hne, h]
theorem above_is : ∀ (t : Tr) (p : Pf), WF t → goodP p = true → aboveT t p = aboveE (ents t) p
  | .nil, _, _, _ => rfl
  | .node q x a b, p, hw, hp => by
    have hcov := root_cov hw
    have hgood := ents_good _ hw
    obtain ⟨hq, hx, ia, ib, wa, wb⟩ := hw
    have ka := in_keys a q 0 hq.1 wa ia
    have kb := in_keys b q 1 hq.1 wb ib
    unfold aboveT
    split
    · rename_i h
      show _ = aboveE (topE q x ++ (ents a ++ ents b)) p
      rw [above_app, above_app, above_top h.1 (by rw [cov_is hq.1 hp]; exact decide_eq_true h.2), above_is a p wa hp, above_is b p wb hp]
      congr 1
      split
      · rename_i hb
        rw [above_nil (l := ents b), List.append_nil]
        intro e he _
        have hs := kb e.p (key_mem he)
        have ge := (ents_good b wb e.p (key_mem he)).1
        rw [cov_is ge hp]
        refine decide_eq_false (fun hc => ?_)
        have h1 := cov_bit hq.1 ge hs.1 hc
        have h2 : bitOf q e.p = 1 := hs.2.2
        omega
      · rename_i hb
        rw [above_nil (l := ents a), List.nil_append]
        intro e he _
        have hs := ka e.p (key_mem he)
        have ge := (ents_good a wa e.p (key_mem he)).1
        rw [cov_is ge hp]
        refine decide_eq_false (fun hc => ?_)
        have h1 := cov_bit hq.1 ge hs.1 hc
        have h2 : bitOf q e.p = 0 := hs.2.2
        omega
    · rename_i h
      rw [above_nil]
      intro e he hne
      have ge := (hgood e.p (key_mem he)).1
      rw [cov_is ge hp]
      refine decide_eq_false (fun hc => ?_)
      have hqe := hcov e.p (key_mem he)
      have hqp := cov_trans hq.1 ge hqe hc
      by_cases e1 : q = p
      · exact hne (cov_anti hp hc (e1 ▸ hqe))
      · exact h ⟨e1, hqp⟩
/-- The part of a tree that lies within a prefix. -/
def subT : Tr → Pf → Tr
  | .nil, _ => .nil
  | .node q x a b, p => if Cov p q then .node q x a b else if Cov q p then (if bitOf q p = 0 then subT a p else subT b p) else .nil
theorem sub_wf : ∀ (t : Tr) (p : Pf), WF t → WF (subT t p)
  | .nil, _, _ => trivial
  | .node q x a b, p, hw => by
    have hw0 := hw
    obtain ⟨hq, hx, ia, ib, wa, wb⟩ := hw
    unfold subT
    split
    · exact hw0
    · split
      · split
        · exact sub_wf a p wa
        · exact sub_wf b p wb
      · trivial
/-- Of two that cover one, one covers the other. -/
theorem cov_two {p q e : Pf} (hp : goodP p = true) (hq : goodP q = true) (he : goodP e = true) (h : Cov p e) (h2 : Cov q e) : Cov p q ∨ Cov q p := by
  have l1 := good_len hp
  have l2 := good_len hq
  have l3 := good_len he
  rcases Int.le_total p.n q.n with hle | hle
  · exact .inl ⟨hle, by rw [← h2.2, cutN_cutN e.a q.n.toNat p.n.toNat (by omega) (by omega), h.2]⟩
  · exact .inr ⟨hle, by rw [← h.2, cutN_cutN e.a p.n.toNat q.n.toNat (by omega) (by omega), h2.2]⟩
theorem filter_all {l : List Ent} {f : Ent → Bool} (h : ∀ e ∈ l, f e = true) : l.filter f = l := List.filter_eq_self.2 h
theorem sub_ents : ∀ (t : Tr) (p : Pf), WF t → goodP p = true → ents (subT t p) = (ents t).filter (fun e => covP p e.p)
  | .nil, _, _, _ => rfl
  | .node q x a b, p, hw, hp => by
    have hcov := root_cov hw
    have hgood := ents_good _ hw
    obtain ⟨hq, hx, ia, ib, wa, wb⟩ := hw
    have ka := in_keys a q 0 hq.1 wa ia
    have kb := in_keys b q 1 hq.1 wb ib
    unfold subT
    split
    · rename_i h
      rw [filter_all]
      intro e he
      rw [cov_is hp (hgood e.p (key_mem he)).1]
      exact decide_eq_true (cov_trans hp hq.1 h (hcov e.p (key_mem he)))
    · rename_i h
      split
      · rename_i hc
        have ht : (topE q x).filter (fun e => covP p e.p) = [] := by
          rw [List.filter_eq_nil_iff]
          intro e he
          rw [(mem_topE.1 he).1, cov_is hp hq.1, decide_eq_false h]
          decide
        have hlt : q.n < p.n := by
          rcases Int.lt_or_le q.n p.n with h1 | h1
          · exact h1
          · exact absurd (cov_self hp) (fun _ => h ((pf_ext (p := p) (q := q) (by
              have e : q.n = p.n := Int.le_antisymm hc.1 h1
              have := hc.2
              rw [e, good_cut hp] at this
              exact this) (Int.le_antisymm h1 hc.1)) ▸ cov_self hp))
        show _ = (topE q x ++ (ents a ++ ents b)).filter _
        rw [List.filter_append, List.filter_append, ht, List.nil_append]
        split
        · rename_i hb
          rw [sub_ents a p wa hp]
          have hz : (ents b).filter (fun e => covP p e.p) = [] := by
            rw [List.filter_eq_nil_iff]
            intro e he h2
            have hs := kb e.p (key_mem he)
            have ge := (ents_good b wb e.p (key_mem he)).1
            rw [cov_is hp ge] at h2
            have h1 := cov_bit hq.1 hp hlt (of_decide_eq_true h2)
            have h3 : bitOf q e.p = 1 := hs.2.2
            omega
          rw [hz, List.append_nil]
        · rename_i hb
          rw [sub_ents b p wb hp]
          have hz : (ents a).filter (fun e => covP p e.p) = [] := by
            rw [List.filter_eq_nil_iff]
            intro e he h2
            have hs := ka e.p (key_mem he)
            have ge := (ents_good a wa e.p (key_mem he)).1
            rw [cov_is hp ge] at h2
            have h1 := cov_bit hq.1 hp hlt (of_decide_eq_true h2)
            have h3 : bitOf q e.p = 0 := hs.2.2
            omega
          rw [hz, List.nil_append]
      · rename_i hc
        symm
        rw [show ents Tr.nil = [] from rfl, List.filter_eq_nil_iff]
        intro e he h2
        have ge := (hgood e.p (key_mem he)).1
        rw [cov_is hp ge] at h2
        exact (cov_two hp hq.1 ge (of_decide_eq_true h2) (hcov e.p (key_mem he))).elim h hc
def addrP (a : Nat) : Pf := ⟨a, 32⟩
theorem good_addr (a : Nat) : goodP (addrP a) = true := good_pf (k := 32) (Nat.le_refl _) (cutN_32 a)
def pickE (q : Pf) (x : Option Int) (b : Option Ent) : Option Ent := match x with
  | none => b
  | some y => some ⟨q, y⟩
def longT : Tr → Nat → Option Ent → Option Ent
  | .nil, _, b => b
  | .node q x s t, a, b => if Cov q (addrP a) then (if bitOf q (addrP a) = 0 then longT s a (pickE q x b) else longT t a (pickE q x b)) else b
theorem long_app : ∀ (a : Nat) (l m : List Ent) (b : Option Ent), longE a b (l ++ m) = longE a (longE a b l) m
  | _, [], _, _ => rfl
  | a, e :: l, m, b => by
    show longE a _ (l ++ m) = _
    rw [long_app a l m]
    rfl
theorem long_none : ∀ (a : Nat) (l : List Ent) (b : Option Ent), (∀ e ∈ l, covP e.p (addrP a) = false) → longE a b l = b
  | _, [], _, _ => rfl
  | a, e :: l, b, h => by
    show longE a (if covP e.p (addrP a) && _ then some e else b) l = b
    rw [h e List.mem_cons_self]
    exact long_none a l b (fun x hx => h x (List.mem_cons_of_mem _ hx))
theorem long_is : ∀ (t : Tr) (a : Nat) (b : Option Ent), WF t → (∀ e, b = some e → ∀ k ∈ keys (ents t), e.p.n < k.n) → longE a b (ents t) = longT t a b
  | .nil, _, _, _, _ => rfl
  | .node q x s t, a, b, hw, hb => by
    have hcov := root_cov hw
    have hgood := ents_good _ hw
    obtain ⟨hq, hx, ia, ib, wa, wb⟩ := hw
    have ka := in_keys s q 0 hq.1 wa ia
    have kb := in_keys t q 1 hq.1 wb ib
    have ga := good_addr a
    unfold longT
    split
    · rename_i hc
      have htop : longE a b (topE q x) = pickE q x b := by
        cases x with
        | none => rfl
        | some y =>
          show (if covP q (addrP a) && shortB b q then some (⟨q, y⟩ : Ent) else b) = some ⟨q, y⟩
          rw [cov_is hq.1 ga, decide_eq_true hc, Bool.true_and]
          cases b with
          | none => rfl
          | some z =>
            have := hb z rfl q (by simp [ents, topE, keys])
            show (if decide (z.p.n < q.n) = true then _ else _) = _
            rw [decide_eq_true this]; rfl
      have hsub : ∀ (u : Tr) (i : Nat), (∀ k ∈ keys (ents u), Side q i k) → (∀ k ∈ keys (ents u), k ∈ keys (ents (.node q x s t))) → ∀ e, pickE q x b = some e → ∀ k ∈ keys (ents u), e.p.n < k.n := fun u i hu hin e he k hk => by
        cases x with
        | none => exact hb e he k (hin k hk)
        | some y =>
          have he2 : (⟨q, y⟩ : Ent) = e := Option.some.inj he
          rw [← he2]
          exact (hu k hk).1
      have e0 : ents (.node q x s t) = topE q x ++ (ents s ++ ents t) := rfl
      have i1 : ∀ k ∈ keys (ents s), k ∈ keys (ents (.node q x s t)) := fun k hk => by
        rw [e0]
        simp only [keys, List.map_append, List.mem_append]
        exact .inr (.inl hk)
      have i2 : ∀ k ∈ keys (ents t), k ∈ keys (ents (.node q x s t)) := fun k hk => by
        rw [e0]
        simp only [keys, List.map_append, List.mem_append]
        exact .inr (.inr hk)
      rw [e0, long_app, long_app, htop]
      split
      · rename_i hbit
        rw [long_is s a _ wa (hsub s 0 ka i1), long_none]
        intro e he
        have hs := kb e.p (key_mem he)
        have ge := (ents_good t wb e.p (key_mem he)).1
        rw [cov_is ge ga]
        refine decide_eq_false (fun hc2 => ?_)
        have h1 := cov_bit hq.1 ge hs.1 hc2
        have h2 : bitOf q e.p = 1 := hs.2.2
        omega
      · rename_i hbit
        rw [long_none a (ents s), long_is t a _ wb (hsub t 1 kb i2)]
        intro e he
        have hs := ka e.p (key_mem he)
        have ge := (ents_good s wa e.p (key_mem he)).1
        rw [cov_is ge ga]
        refine decide_eq_false (fun hc2 => ?_)
        have h1 := cov_bit hq.1 ge hs.1 hc2
        have h2 : bitOf q e.p = 0 := hs.2.2
        omega
    · rename_i hc
      refine long_none a _ b (fun e he => ?_)
      have ge := (hgood e.p (key_mem he)).1
      rw [cov_is ge ga]
      exact decide_eq_false (fun hc2 => hc (cov_trans hq.1 ge (hcov e.p (key_mem he)) hc2))
end Go.Proofs.Ytpcahgnibdampaa.Tri
