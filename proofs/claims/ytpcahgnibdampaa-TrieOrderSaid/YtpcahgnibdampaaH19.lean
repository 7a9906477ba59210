/- Plain mathematics: what the program's walks through a tree of nodes come to, in the words of the tree that it stands for: what is read. It calls no function of the program. -/
import Derived.Test.YtpcahgnibdampaaH12
import Derived.Test.YtpcahgnibdampaaH18
import Derived.Test.YtpcahgnibdampaaH11
namespace Go.Proofs.Ytpcahgnibdampaa.Tri
open Go.RowKit Mem PR Pfx Oct
theorem good_wf {p : Pf} (h : goodP p = true) : (Lit.int .i64 p.n).wf = true := by
  obtain ⟨h0, h1⟩ := good_len h
  simp [Lit.wf, IntKind.min, IntKind.max, IntKind.signed, IntKind.bits]; omega
theorem nil_or (m : MT) : m = .nil ∨ ∃ b q x h c s t, m = .node b q x h c s t := by
  cases m with
  | nil => exact .inl rfl
  | node b q x h c s t => exact .inr ⟨b, q, x, h, c, s, t, rfl⟩
theorem cov_bad1 {p : Pf} (h : goodP p = false) (q : Pf) : covP q p = false := by
  unfold covP coversB; rw [show goodB p.a p.n = false from h]; rfl
theorem cov_bad2 {p : Pf} (h : goodP p = false) (q : Pf) : covP p q = false := by
  unfold covP coversB hasB; rw [show goodB p.a p.n = false from h]; simp
theorem cov_good1 {p q : Pf} (h : covP q p = true) : goodP p = true := by
  cases hg : goodP p with
  | true => rfl
  | false => rw [cov_bad1 hg] at h; cases h
theorem wi_bad {p : Pf} (h : goodP p = false) (q : Pf) : wiP q p = false := by rw [wi_is, cov_bad1 h]; simp
theorem wi_yes {q p : Pf} (hq : goodP q = true) (h : wiP q p = true) : goodP p = true ∧ p ≠ q ∧ Cov q p ∧ q.n < p.n := by
  rw [wi_is] at h
  simp only [Bool.and_eq_true, Bool.not_eq_true', decide_eq_false_iff_not] at h
  have hp := cov_good1 h.2
  have hc := h.2
  rw [cov_is hq hp] at hc
  have hc := of_decide_eq_true hc
  refine ⟨hp, h.1, hc, ?_⟩
  exact (cov_side hc (fun e => h.1 e.symm) hp).1
theorem wi_no {q p : Pf} (hq : goodP q = true) (hp : goodP p = true) (h : wiP q p = false) : p = q ∨ ¬ Cov q p := by
  rw [wi_is, cov_is hq hp] at h
  by_cases e : p = q
  · exact .inl e
  · rw [decide_eq_false e] at h
    exact .inr (by simpa using h)
theorem sd_bit {q p : Pf} (h : q.n < p.n) (hp : p.n ≤ 32) : sd q p = bitOf q p := by unfold sd; rw [if_neg (by omega)]
theorem wi_sd {q p : Pf} (hq : goodP q = true) (h : wiP q p = true) : sd q p = bitOf q p := by
  obtain ⟨hp, -, -, hl⟩ := wi_yes hq h
  exact sd_bit hl (good_len hp).2
theorem leaf_of {q : Pf} {i : Nat} {t : Tr} (hn : q.n = 32) (hi : In q i t) (hw : WF t) : t = .nil := by
  cases t with
  | nil => rfl
  | node r v a b =>
    have := (good_len hw.1.1).2
    have := hi.1
    omega
theorem tr_nil {m : MT} (h : tr m = .nil) : m = .nil := by
  cases m with
  | nil => rfl
  | node => cases h
theorem sub_stop {q p : Pf} {i : Nat} {m : MT} (hi : In q i (tr m)) (hw : WF (tr m)) (hn : p.n ≤ q.n) (hp : goodP p = true) : ∀ {b : Nat} {r : Pf} {x : Int} {h : Bool} {c : Int} {s t : MT}, m = .node b r x h c s t → covP r p = false := by
  intro b r x h c s t e
  subst e
  rw [cov_is hw.1.1 hp]
  refine decide_eq_false (fun hc => ?_)
  have := hi.1
  have := hc.1
  omega
theorem sub_tr : ∀ (m : MT) (p : Pf), WF (tr m) → goodP p = true → tr (subM m p) = subT (tr m) p
  | .nil, _, _, _ => rfl
  | .node b q x h c s t, p, hw, hp => by
    have hq := hw.1.1
    have e : tr (.node b q x h c s t) = .node q (if h then some x else none) (tr s) (tr t) := rfl
    rw [e]
    unfold subT
    cases hwi : wiP q p with
    | true =>
      obtain ⟨-, hne, hc, hl⟩ := wi_yes hq hwi
      have hb := wi_sd hq hwi
      rw [if_neg (not_cov_of hc (fun e => hne e.symm) hp), if_pos hc]
      rcases sd_two q p with h0 | h0
      · rw [subM_low hwi h0, if_pos (by rw [← hb]; exact h0)]
        exact sub_tr s p hw.2.2.2.2.1 hp
      · rw [subM_high hwi h0, if_neg (by rw [← hb, h0]; decide)]
        exact sub_tr t p hw.2.2.2.2.2 hp
    | false =>
      unfold subM
      rw [hwi, if_neg (by decide), cov_is hp hq]
      by_cases hc : Cov p q
      · rw [if_pos (decide_eq_true hc), if_pos hc]; rfl
      · rw [if_neg (by rw [decide_eq_false hc]; decide), if_neg hc]
        rcases wi_no hq hp hwi with e1 | e1
        · exact absurd (e1 ▸ cov_self hp) hc
        · rw [if_neg e1]; rfl
theorem sub_bad {p : Pf} (h : goodP p = false) : ∀ (m : MT), subM m p = .nil
  | .nil => rfl
  | .node b q x h0 c s t => by
    unfold subM
    rw [wi_bad h, cov_bad2 h, if_neg (by decide), if_neg (by decide)]
theorem sub_mt {W : World} {p : Pf} : ∀ {m : MT}, Mt W m → Mt W (subM m p)
  | .nil, _ => trivial
  | .node b q x h c s t, hm => by
    unfold subM
    split
    · split
      · exact sub_mt hm.2.1
      · exact sub_mt hm.2.2
    · split
      · exact hm
      · trivial
theorem sub_fit {p : Pf} : ∀ {m : MT}, Fit m → Fit (subM m p)
  | .nil, _ => trivial
  | .node b q x h c s t, hm => by
    unfold subM
    split
    · split
      · exact sub_fit hm.2.2.1
      · exact sub_fit hm.2.2.2
    · split
      · exact hm
      · trivial
theorem sub_wfm {p : Pf} : ∀ {m : MT}, WF (tr m) → WF (tr (subM m p))
  | .nil, _ => trivial
  | .node b q x h c s t, hm => by
    unfold subM
    split
    · split
      · exact sub_wfm hm.2.2.2.2.1
      · exact sub_wfm hm.2.2.2.2.2
    · split
      · exact hm
      · trivial
theorem fit_cnt {m : MT} (h : Fit m) : cntV m = ((ents (tr m)).length : Int) := by
  cases m with
  | nil => rfl
  | node b q x h c s t => exact h.1
def told (p : Pf) : MT → Option Int
  | .nil => none
  | .node _ q x h _ _ _ => if q = p then (if h then some x else none) else none
theorem told_node (p : Pf) (b : Nat) (q : Pf) (x : Int) (h : Bool) (c : Int) (s t : MT) : told p (.node b q x h c s t) = if q = p then (if h then some x else none) else none := rfl
theorem get_sub : ∀ (m : MT) (p : Pf), WF (tr m) → goodP p = true → told p (subM m p) = getT (tr m) p
  | .nil, _, _, _ => rfl
  | .node b q x h c s t, p, hw, hp => by
    have hq := hw.1.1
    have e : tr (.node b q x h c s t) = .node q (if h then some x else none) (tr s) (tr t) := rfl
    rw [e]
    unfold getT
    cases hwi : wiP q p with
    | true =>
      obtain ⟨-, hne, hc, hl⟩ := wi_yes hq hwi
      have hb := wi_sd hq hwi
      rw [if_neg hne, if_pos hc]
      rcases sd_two q p with h0 | h0
      · rw [subM_low hwi h0, if_pos (by rw [← hb]; exact h0)]
        exact get_sub s p hw.2.2.2.2.1 hp
      · rw [subM_high hwi h0, if_neg (by rw [← hb, h0]; decide)]
        exact get_sub t p hw.2.2.2.2.2 hp
    | false =>
      unfold subM
      rw [hwi, if_neg (by decide), cov_is hp hq]
      rcases wi_no hq hp hwi with e1 | e1
      · subst e1
        rw [if_pos (decide_eq_true (cov_self hp)), if_pos rfl]
        rw [told_node, if_pos rfl]
      · have hne : ¬ p = q := by intro e2; subst e2; exact e1 (cov_self hp)
        rw [if_neg hne, if_neg e1]
        split
        · rw [told_node, if_neg (fun e2 : q = p => hne e2.symm)]
        · rfl
theorem get_bad {p : Pf} (h : goodP p = false) {t : Tr} (hw : WF t) : getE (ents t) p = none := get_none.2 (fun hk => by
  have := (ents_good t hw p hk).1
  rw [h] at this; cases this)
theorem told_is (m : MT) (p : Pf) (hw : WF (tr m)) : told p (subM m p) = getE (ents (tr m)) p := by
  cases hg : goodP p with
  | true => rw [get_sub m p hw hg, get_ents _ _ hw]
  | false => rw [sub_bad hg, get_bad hg hw]; rfl
def abvM (p : Pf) : MT → List Pf
  | .nil => []
  | .node _ q _ h _ s t => if covP q p then shownP q p h ++ (if sd q p = 0 then abvM p s else abvM p t) else []
theorem abv_kid (p q : Pf) (s t : MT) : (if sd q p = 0 then abvM p s else abvM p t) = abvM p (kidM q p s t) := by
  unfold kidM; split <;> rfl
theorem abv_is : ∀ (m : MT) (p : Pf), WF (tr m) → goodP p = true → abvM p m = aboveT (tr m) p
  | .nil, _, _, _ => rfl
  | .node b q x h c s t, p, hw, hp => by
    have hq := hw.1.1
    have e : tr (.node b q x h c s t) = .node q (if h then some x else none) (tr s) (tr t) := rfl
    rw [e]
    unfold aboveT abvM
    rw [cov_is hq hp]
    by_cases hc : Cov q p
    · rw [if_pos (decide_eq_true hc)]
      by_cases he : q = p
      · subst he
        rw [if_neg (show ¬ (q ≠ q ∧ Cov q q) from fun h => h.1 rfl)]
        have h1 : shownP q q h = [] := by unfold shownP; simp
        have h2 : ∀ (m : MT) (i : Nat), In q i (tr m) → WF (tr m) → abvM q m = [] := fun m i hi hwm => by
          cases m with
          | nil => rfl
          | node b2 r x2 h2 c2 s2 t2 =>
            unfold abvM
            rw [sub_stop hi hwm (Int.le_refl _) hp rfl]
            rfl
        rw [h1, h2 s 0 hw.2.2.1 hw.2.2.2.2.1, h2 t 1 hw.2.2.2.1 hw.2.2.2.2.2]
        simp
      · rw [if_pos (show q ≠ p ∧ Cov q p from ⟨he, hc⟩)]
        have hs := cov_side hc he hp
        have hb := sd_bit hs.1 (good_len hp).2
        rw [hb, abv_is s p hw.2.2.2.2.1 hp, abv_is t p hw.2.2.2.2.2 hp]
        congr 1
        unfold shownP
        rw [decide_eq_true he, Bool.and_true]
        cases h <;> rfl
    · rw [if_neg (by rw [decide_eq_false hc]; decide), if_neg (show ¬ (q ≠ p ∧ Cov q p) from fun h => hc h.2)]
theorem abv_all (m : MT) (p : Pf) (hw : WF (tr m)) : abvM p m = aboveE (ents (tr m)) p := by
  cases hg : goodP p with
  | true => rw [abv_is m p hw hg, above_is _ _ hw hg]
  | false =>
    rw [above_nil (fun e _ _ => cov_bad1 hg e.p)]
    cases m with
    | nil => rfl
    | node b q x h c s t => unfold abvM; rw [cov_bad1 hg]; rfl
def longM (a : Nat) : MT → Option Ent → Option Ent
  | .nil, o => o
  | .node _ q x h _ s t, o => if covP q (addrP a) then (if sd q (addrP a) = 0 then longM a s (pickE q (if h then some x else none) o) else longM a t (pickE q (if h then some x else none) o)) else o
theorem long_kid (a : Nat) (q : Pf) (s t : MT) (o : Option Ent) : (if sd q (addrP a) = 0 then longM a s o else longM a t o) = longM a (kidM q (addrP a) s t) o := by
  unfold kidM; split <;> rfl
theorem long_eq : ∀ (m : MT) (a : Nat) (o : Option Ent), WF (tr m) → longM a m o = longT (tr m) a o
  | .nil, _, _, _ => rfl
  | .node b q x h c s t, a, o, hw => by
    have hq := hw.1.1
    have e : tr (.node b q x h c s t) = .node q (if h then some x else none) (tr s) (tr t) := rfl
    rw [e]
    unfold longT longM
    rw [cov_is hq (good_addr a)]
    by_cases hc : Cov q (addrP a)
    · rw [if_pos (decide_eq_true hc), if_pos hc]
      by_cases hn : q.n = 32
      · have h1 := leaf_of hn hw.2.2.1 hw.2.2.2.2.1
        have h2 := leaf_of hn hw.2.2.2.1 hw.2.2.2.2.2
        rw [h1, h2, tr_nil h1, tr_nil h2]
        unfold longM longT
        simp
      · have hb : sd q (addrP a) = bitOf q (addrP a) := by unfold sd; rw [if_neg hn]
        rw [hb, long_eq s a _ hw.2.2.2.2.1, long_eq t a _ hw.2.2.2.2.2]
    · rw [if_neg (by rw [decide_eq_false hc]; decide), if_neg hc]
theorem long_all (m : MT) (a : Nat) (hw : WF (tr m)) : longM a m none = longE a none (ents (tr m)) := by
  rw [long_eq m a none hw, long_is _ _ _ hw (fun e h => by cases h)]
def heldM : MT → List Pf
  | .nil => []
  | .node _ q _ h _ s t => (if h then [q] else []) ++ (heldM s ++ heldM t)
theorem held_is : ∀ (m : MT), heldM m = keys (ents (tr m))
  | .nil => rfl
  | .node b q x h c s t => by
    show (if h then [q] else []) ++ (heldM s ++ heldM t) = keys (topE q (if h then some x else none) ++ (ents (tr s) ++ ents (tr t)))
    unfold keys
    rw [List.map_append, List.map_append]
    rw [held_is s, held_is t]
    cases h <;> rfl
def belM (p : Pf) : MT → List Pf
  | .nil => []
  | .node _ q _ h _ s t => shownP q p h ++ (belM p s ++ belM p t)
theorem bel_is (p : Pf) : ∀ (m : MT), belM p m = (keys (ents (tr m))).filter (fun q => decide (q ≠ p))
  | .nil => rfl
  | .node b q x h c s t => by
    show shownP q p h ++ (belM p s ++ belM p t) = (keys (topE q (if h then some x else none) ++ (ents (tr s) ++ ents (tr t)))).filter _
    unfold keys
    rw [List.map_append, List.map_append, List.filter_append, List.filter_append, bel_is p s, bel_is p t]
    congr 1
    unfold shownP
    cases h with
    | false => rfl
    | true =>
      simp only [Bool.true_and, topE, if_true, List.map_cons, List.map_nil, List.filter_cons, List.filter_nil]
theorem below_of (l : List Ent) (p : Pf) : (keys (l.filter (fun e => covP p e.p))).filter (fun q => decide (q ≠ p)) = belowE l p := by
  unfold keys belowE
  induction l with
  | nil => rfl
  | cons e l ih =>
    simp only [List.filter_cons]
    cases h : covP p e.p with
    | false => rw [if_neg (by decide), if_neg (by simp)]; exact ih
    | true =>
      rw [if_pos rfl, List.map_cons, List.filter_cons, ih]
      by_cases he : e.p = p
      · simp [he]
      · simp [he]
theorem bel_all (m : MT) (p : Pf) (hw : WF (tr m)) : belM p (subM m p) = belowE (ents (tr m)) p := by
  cases hg : goodP p with
  | true => rw [bel_is, sub_tr m p hw hg, sub_ents _ _ hw hg, below_of]
  | false =>
    rw [sub_bad hg]
    unfold belowE
    rw [List.filter_eq_nil_iff.2 (fun e _ => by rw [cov_bad2 hg]; simp)]
    rfl
theorem count_of : ∀ (l : List Ent) (p : Pf), Ord l → goodP p = true → (l.filter (fun e => covP p e.p)).length = (belowE l p).length + (if hasE l p then 1 else 0)
  | [], _, _, _ => rfl
  | e :: l, p, ho, hp => by
    unfold Ord at ho
    rw [List.pairwise_cons] at ho
    have ih := count_of l p ho.2 hp
    by_cases he : e.p = p
    · have hn : p ∉ keys l := fun hk => by
        obtain ⟨z, hz, e2⟩ := List.mem_map.1 hk
        have := ho.1 z hz
        rw [he, e2] at this
        exact lt_irrefl p this
      have h1 : hasE l p = false := by unfold hasE; rw [get_none.2 hn]; rfl
      have h2 : hasE (e :: l) p = true := by unfold hasE getE; simp [he]
      have h3 : covP p e.p = true := by rw [he, cov_is hp hp]; exact decide_eq_true (cov_self hp)
      have h4 : belowE (e :: l) p = belowE l p := by unfold belowE; simp [he]
      rw [h1] at ih
      rw [h2, h4, List.filter_cons, h3, if_pos rfl, List.length_cons, ih]
      simp
    · have h2 : hasE (e :: l) p = hasE l p := by unfold hasE getE; simp [he]
      rw [h2, List.filter_cons]
      have h4 : belowE (e :: l) p = if covP p e.p then e.p :: belowE l p else belowE l p := by
        unfold belowE
        rw [List.filter_cons]
        cases h : covP p e.p <;> simp [he]
      rw [h4]
      split
      · rw [List.length_cons, List.length_cons, ih]; omega
      · exact ih
theorem count_all (m : MT) (p : Pf) (hw : WF (tr m)) (hf : Fit m) : cntV (subM m p) = (((belowE (ents (tr m)) p).length + (if hasE (ents (tr m)) p then 1 else 0) : Nat) : Int) := by
  rw [fit_cnt (sub_fit hf)]
  congr 1
  cases hg : goodP p with
  | true => rw [sub_tr m p hw hg, sub_ents _ _ hw hg, count_of _ _ (ents_ord _ hw) hg]
  | false =>
    rw [sub_bad hg]
    have h1 : belowE (ents (tr m)) p = [] := by
      unfold belowE
      rw [List.filter_eq_nil_iff.2 (fun e _ => by rw [cov_bad2 hg]; simp)]
      rfl
    have h2 : hasE (ents (tr m)) p = false := by unfold hasE; rw [get_bad hg hw]; rfl
    rw [h1, h2]; rfl
theorem msize_tr : ∀ (m : MT), msize m = size (tr m)
  | .nil => rfl
  | .node b q x h c s t => by
    show 1 + msize s + msize t = 1 + size (tr s) + size (tr t)
    rw [msize_tr s, msize_tr t]
end Go.Proofs.Ytpcahgnibdampaa.Tri
