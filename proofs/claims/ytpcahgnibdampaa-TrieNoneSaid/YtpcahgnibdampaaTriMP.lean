/- Plain mathematics: what the program's Put and Cut do to a tree of nodes, in the words of the tree that it stands for. It calls no function of the program. -/
import Derived.Test.YtpcahgnibdampaaTriTidy
namespace Go.Proofs.Ytpcahgnibdampaa.Tri
open Go.RowKit Mem PR Pfx Oct

/-- What is done where one that goes down stops. -/
def atEnd (p : Pf) (g : MT → MT) : MT → MT
  | .nil => g .nil
  | .node b q x h c s t => if wiP q p then (if sd q p = 0 then .node b q x h c (atEnd p g s) t else .node b q x h c s (atEnd p g t)) else g (.node b q x h c s t)
theorem atEnd_node (p : Pf) (g : MT → MT) (b : Nat) (q : Pf) (x : Int) (h : Bool) (c : Int) (s t : MT) :
    atEnd p g (.node b q x h c s t) = if wiP q p then (if sd q p = 0 then .node b q x h c (atEnd p g s) t else .node b q x h c s (atEnd p g t)) else g (.node b q x h c s t) := rfl
theorem plug_down (p : Pf) (g : MT → MT) : ∀ (m : MT) (fs : List Fr), plug (down p fs m).1 (g (down p fs m).2) = plug fs (atEnd p g m)
  | .nil, _ => rfl
  | .node b q x h c s t, fs => by
    rw [atEnd_node]
    cases hw : wiP q p with
    | false => rw [down_stop hw]; rfl
    | true =>
      rw [if_pos rfl]
      rcases sd_two q p with h0 | h0
      · rw [down_low hw h0, plug_down p g s, if_pos h0]; rfl
      · rw [down_high hw h0, plug_down p g t, if_neg (by rw [h0]; decide)]; rfl
theorem down_plug (p : Pf) (m : MT) : plug (down p [] m).1 (down p [] m).2 = m := by
  have h := plug_down p id m []
  have : ∀ m, atEnd p id m = m := fun m => by
    induction m with
    | nil => rfl
    | node b q x h c s t ih1 ih2 =>
      rw [atEnd_node, ih1, ih2]
      split
      · split <;> rfl
      · rfl
  rw [this] at h
  exact h
/-- What one comes to at the end. -/
def endM (p : Pf) : MT → MT
  | .nil => .nil
  | .node b q x h c s t => if wiP q p then (if sd q p = 0 then endM p s else endM p t) else .node b q x h c s t
theorem endM_node (p : Pf) (b : Nat) (q : Pf) (x : Int) (h : Bool) (c : Int) (s t : MT) : endM p (.node b q x h c s t) = if wiP q p then (if sd q p = 0 then endM p s else endM p t) else .node b q x h c s t := rfl
theorem down_end (p : Pf) : ∀ (m : MT) (fs : List Fr), (down p fs m).2 = endM p m
  | .nil, _ => rfl
  | .node b q x h c s t, fs => by
    rw [endM_node]
    cases hw : wiP q p with
    | false => rw [down_stop hw]; rfl
    | true =>
      rw [if_pos rfl]
      rcases sd_two q p with h0 | h0
      · rw [down_low hw h0, down_end p s, if_pos h0]
      · rw [down_high hw h0, down_end p t, if_neg (by rw [h0]; decide)]
/-- Counts along a way. -/
def incM (d : Int) (p : Pf) : MT → MT
  | .nil => .nil
  | .node b q x h c s t => if covP q p then (if sd q p = 0 then .node b q x h (c + d) (incM d p s) t else .node b q x h (c + d) s (incM d p t)) else .node b q x h c s t
theorem inc_node (d : Int) (p : Pf) (b : Nat) (q : Pf) (x : Int) (h : Bool) (c : Int) (s t : MT) : incM d p (.node b q x h c s t) = if covP q p then (if sd q p = 0 then .node b q x h (c + d) (incM d p s) t else .node b q x h (c + d) s (incM d p t)) else .node b q x h c s t := rfl
theorem tr_inc (d : Int) (p : Pf) : ∀ (m : MT), tr (incM d p m) = tr m
  | .nil => rfl
  | .node b q x h c s t => by
    rw [inc_node]
    split
    · split
      · show Tr.node q _ (tr (incM d p s)) (tr t) = _
        rw [tr_inc d p s]; rfl
      · show Tr.node q _ (tr s) (tr (incM d p t)) = _
        rw [tr_inc d p t]; rfl
    · rfl
theorem cnt_inc (d : Int) (p : Pf) (a : Nat) : ∀ (m : MT), cnt (incM d p m) a = cnt m a
  | .nil => rfl
  | .node b q x h c s t => by
    rw [inc_node]
    split
    · split
      · simp only [cnt]; rw [cnt_inc d p a s]
      · simp only [cnt]; rw [cnt_inc d p a t]
    · rfl
theorem ptr_inc (d : Int) (p : Pf) (m : MT) : ptr (incM d p m) = ptr m := by
  cases m with
  | nil => rfl
  | node b q x h c s t =>
    rw [inc_node]
    split
    · split <;> rfl
    · rfl
theorem inc_ends {d : Int} {p : Pf} {m : MT} (h : Ends p m) : incM d p m = m := by
  cases m with
  | nil => rfl
  | node b q x hh c s t =>
    have h : covP q p = false := h
    rw [inc_node, h]; rfl
/-- What does not cover p, below one that is p. -/
theorem inc_stop {q : Pf} {i : Nat} {m : MT} {p : Pf} {d : Int} (hi : In q i (tr m)) (hw : WF (tr m)) (hn : p.n ≤ q.n) (hp : goodP p = true) : incM d p m = m := by
  cases m with
  | nil => rfl
  | node b r x h c s t => rw [inc_node, sub_stop hi hw hn hp rfl]; rfl
/-- The end of Put: what is there turns, or something is hung there. -/
def putL (b1 b2 : Nat) (p : Pf) (x : Int) : MT → MT
  | .nil => insL b1 b2 p x true .nil
  | .node b q x0 h0 c s t => if q = p then .node b q x true c s t else insL b1 b2 p x true (.node b q x0 h0 c s t)
theorem putL_node (b1 b2 : Nat) (p : Pf) (x : Int) (b : Nat) (q : Pf) (x0 : Int) (h0 : Bool) (c : Int) (s t : MT) : putL b1 b2 p x (.node b q x0 h0 c s t) = if q = p then .node b q x true c s t else insL b1 b2 p x true (.node b q x0 h0 c s t) := rfl
theorem tr_ins {b1 b2 : Nat} {p : Pf} {x : Int} {b : Nat} {q : Pf} {x0 : Int} {h0 : Bool} {c : Int} {s t : MT} (hp : goodP p = true) (hpa : p.a < 4294967296) (hq : goodP q = true) (hqa : q.a < 4294967296) (hne : p ≠ q) (hn : ¬ Cov q p) :
    tr (insL b1 b2 p x true (.node b q x0 h0 c s t)) = putT (tr (.node b q x0 h0 c s t)) p x := by
  have e : tr (.node b q x0 h0 c s t) = .node q (if h0 then some x0 else none) (tr s) (tr t) := rfl
  rw [insL_node, cov_is hp hq]
  unfold putT
  rw [e]
  simp only []
  rw [if_neg hne, if_neg hn]
  by_cases hc : Cov p q
  · rw [if_pos (decide_eq_true hc), if_pos hc]
    have hs := cov_side hc hne hq
    rw [sd_bit hs.1 (good_len hq).2]
    unfold join
    split <;> rfl
  · rw [if_neg (by rw [decide_eq_false hc]; decide), if_neg hc]
    obtain ⟨g1, g2, s1, s2, s3⟩ := com_sides hp hpa hq hqa hc hn
    rw [sd_bit s1.1 (good_len hp).2]
    unfold join
    split <;> rfl
theorem tr_put (b1 b2 : Nat) (p : Pf) (x : Int) (hp : goodP p = true) (hpa : p.a < 4294967296) : ∀ (m : MT), WF (tr m) → tr (atEnd p (putL b1 b2 p x) m) = putT (tr m) p x
  | .nil, _ => rfl
  | .node b q x0 h0 c s t, hw => by
    have hq := hw.1.1
    rw [atEnd_node]
    cases hwi : wiP q p with
    | true =>
      obtain ⟨-, hne, hc, hl⟩ := wi_yes hq hwi
      have hb := wi_sd hq hwi
      have e : tr (.node b q x0 h0 c s t) = .node q (if h0 then some x0 else none) (tr s) (tr t) := rfl
      rw [if_pos rfl, e]
      unfold putT
      rw [if_neg hne, if_pos hc, hb]
      split
      · show Tr.node q _ (tr (atEnd p _ s)) (tr t) = _
        rw [tr_put b1 b2 p x hp hpa s hw.2.2.2.2.1]
      · show Tr.node q _ (tr s) (tr (atEnd p _ t)) = _
        rw [tr_put b1 b2 p x hp hpa t hw.2.2.2.2.2]
    | false =>
      rw [if_neg (by decide), putL_node]
      by_cases he : q = p
      · subst he
        rw [if_pos rfl]
        have e : tr (.node b q x0 h0 c s t) = .node q (if h0 then some x0 else none) (tr s) (tr t) := rfl
        rw [e]
        unfold putT
        rw [if_pos rfl]; rfl
      · rw [if_neg he]
        have hn := (wi_no hq hp hwi).resolve_left (fun e => he e.symm)
        exact tr_ins hp hpa hq hw.1.2 (fun e => he e.symm) hn
theorem len_put (t : Tr) (p : Pf) (v : Int) (hw : WF t) (hp : goodP p = true ∧ p.a < 4294967296) : (ents (putT t p v)).length = (ents t).length + (if getT t p = none then 1 else 0) := by
  rw [ents_put t p v hw hp, get_ents t p hw]
  have ho := ents_ord t hw
  generalize ents t = l at *
  induction l with
  | nil => rfl
  | cons e l ih =>
    unfold Ord at ho
    rw [List.pairwise_cons] at ho
    have ih := ih ho.2
    unfold putE
    by_cases he : e.p = p
    · rw [if_pos he]
      have : getE (e :: l) p = some e.v := by unfold getE; simp [he]
      rw [this]; simp
    · rw [if_neg he]
      have h2 : getE (e :: l) p = getE l p := by unfold getE; simp [he]
      rw [h2]
      split
      · rw [List.length_cons, List.length_cons, ih]; omega
      · rename_i hnl
        have hn : p ∉ keys l := fun hk => by
          obtain ⟨z, hz, e2⟩ := List.mem_map.1 hk
          have h3 := ho.1 z hz
          rw [e2] at h3
          exact hnl h3
        rw [get_none.2 hn]; simp
theorem cnt_ins (b1 b2 : Nat) (p : Pf) (x : Int) (h : Bool) (a : Nat) (m : MT) : cnt (insL b1 b2 p x h m) a ≤ cnt m a + (if b1 = a then 1 else 0) + (if b2 = a then 1 else 0) := by
  cases m with
  | nil => simp only [insL, cnt]; omega
  | node b q x0 h0 c s t =>
    rw [insL_node]
    split
    · split <;> simp only [cnt] <;> omega
    · split <;> simp only [cnt] <;> omega
theorem cnt_putL (b1 b2 : Nat) (p : Pf) (x : Int) (a : Nat) (m : MT) : cnt (putL b1 b2 p x m) a ≤ cnt m a + (if b1 = a then 1 else 0) + (if b2 = a then 1 else 0) := by
  cases m with
  | nil => exact cnt_ins b1 b2 p x true a .nil
  | node b q x0 h0 c s t =>
    rw [putL_node]
    split
    · simp only [cnt]; omega
    · exact cnt_ins _ _ _ _ _ _ _
theorem cnt_end {p : Pf} {g : MT → MT} {a k : Nat} (hg : ∀ m, cnt (g m) a ≤ cnt m a + k) : ∀ (m : MT), cnt (atEnd p g m) a ≤ cnt m a + k
  | .nil => hg .nil
  | .node b q x h c s t => by
    rw [atEnd_node]
    have h1 := cnt_end (p := p) hg s
    have h2 := cnt_end (p := p) hg t
    split
    · split <;> simp only [cnt] <;> omega
    · exact hg _
theorem fit_node {b : Nat} {q : Pf} {x : Int} {h : Bool} {c : Int} {s t : MT} (hc : c = ((ents (tr (.node b q x h c s t))).length : Int)) (hx : h = false → x = 0) (hs : Fit s) (ht : Fit t) : Fit (.node b q x h c s t) := ⟨hc, hx, hs, ht⟩
/-- Put where something stands: the counts stay. -/
theorem fit_set (b1 b2 : Nat) (p : Pf) (x : Int) (hp : goodP p = true) (hpa : p.a < 4294967296) : ∀ (m : MT), Fit m → WF (tr m) → (getT (tr m) p).isSome = true → Fit (atEnd p (putL b1 b2 p x) m)
  | .nil, _, _, h => by cases h
  | .node b q x0 h0 c s t, hf, hw, hg => by
    have hq := hw.1.1
    have htr := tr_put b1 b2 p x hp hpa (.node b q x0 h0 c s t) hw
    have hlen := len_put (tr (.node b q x0 h0 c s t)) p x hw ⟨hp, hpa⟩
    rw [if_neg (by intro e; rw [e] at hg; cases hg), ← htr] at hlen
    have e : tr (.node b q x0 h0 c s t) = .node q (if h0 then some x0 else none) (tr s) (tr t) := rfl
    rw [atEnd_node] at hlen ⊢
    cases hwi : wiP q p with
    | true =>
      obtain ⟨-, hne, hc, hl⟩ := wi_yes hq hwi
      have hb := wi_sd hq hwi
      rw [e] at hg
      unfold getT at hg
      rw [if_neg hne, if_pos hc] at hg
      rw [hwi, if_pos rfl, hb] at hlen
      rw [if_pos rfl, hb]
      split
      · rename_i h1
        rw [if_pos h1] at hlen hg
        exact fit_node (by rw [hlen]; exact hf.1) hf.2.1 (fit_set b1 b2 p x hp hpa s hf.2.2.1 hw.2.2.2.2.1 hg) hf.2.2.2
      · rename_i h1
        rw [if_neg h1] at hlen hg
        exact fit_node (by rw [hlen]; exact hf.1) hf.2.1 hf.2.2.1 (fit_set b1 b2 p x hp hpa t hf.2.2.2 hw.2.2.2.2.2 hg)
    | false =>
      rw [if_neg (by decide), putL_node]
      rw [hwi, if_neg (by decide), putL_node] at hlen
      by_cases he : q = p
      · subst he
        rw [if_pos rfl] at hlen ⊢
        exact fit_node (by rw [hlen]; exact hf.1) (fun h => by cases h) hf.2.2.1 hf.2.2.2
      · have hn := (wi_no hq hp hwi).resolve_left (fun e => he e.symm)
        rw [e] at hg
        unfold getT at hg
        rw [if_neg (fun e => he e.symm), if_neg hn] at hg
        cases hg
/-- Put where nothing stands: the counts go up along the way. -/
theorem fit_new (b1 b2 : Nat) (p : Pf) (x : Int) (hp : goodP p = true) (hpa : p.a < 4294967296) : ∀ (m : MT), Fit m → WF (tr m) → getT (tr m) p = none → Fit (incM 1 p (atEnd p (putL b1 b2 p x) m))
  | .nil, _, _, _ => by
    show Fit (incM 1 p (.node b1 p x true 0 .nil .nil))
    rw [inc_node, cov_is hp hp, if_pos (decide_eq_true (cov_self hp))]
    split <;> exact fit_node rfl (fun h => by cases h) trivial trivial
  | .node b q x0 h0 c s t, hf, hw, hg => by
    have hq := hw.1.1
    have htr := tr_put b1 b2 p x hp hpa (.node b q x0 h0 c s t) hw
    have hlen := len_put (tr (.node b q x0 h0 c s t)) p x hw ⟨hp, hpa⟩
    rw [if_pos hg, ← htr] at hlen
    have e : tr (.node b q x0 h0 c s t) = .node q (if h0 then some x0 else none) (tr s) (tr t) := rfl
    have hfc := hf.1
    rw [atEnd_node] at hlen ⊢
    cases hwi : wiP q p with
    | true =>
      obtain ⟨-, hne, hc, hl⟩ := wi_yes hq hwi
      have hb := wi_sd hq hwi
      rw [e] at hg
      unfold getT at hg
      rw [if_neg hne, if_pos hc] at hg
      rw [hwi, if_pos rfl, hb] at hlen
      rw [if_pos rfl, hb]
      split
      · rename_i h1
        rw [if_pos h1] at hlen hg
        rw [inc_node, cov_is hq hp, if_pos (decide_eq_true hc), hb, if_pos h1]
        refine fit_node ?_ hf.2.1 (fit_new b1 b2 p x hp hpa s hf.2.2.1 hw.2.2.2.2.1 hg) hf.2.2.2
        have : tr (MT.node b q x0 h0 (c + 1) (incM 1 p (atEnd p (putL b1 b2 p x) s)) t) = tr (MT.node b q x0 h0 c (atEnd p (putL b1 b2 p x) s) t) := by
          show Tr.node q _ (tr (incM 1 p _)) _ = _
          rw [tr_inc]; rfl
        rw [this, hlen]; omega
      · rename_i h1
        rw [if_neg h1] at hlen hg
        rw [inc_node, cov_is hq hp, if_pos (decide_eq_true hc), hb, if_neg h1]
        refine fit_node ?_ hf.2.1 hf.2.2.1 (fit_new b1 b2 p x hp hpa t hf.2.2.2 hw.2.2.2.2.2 hg)
        have : tr (MT.node b q x0 h0 (c + 1) s (incM 1 p (atEnd p (putL b1 b2 p x) t))) = tr (MT.node b q x0 h0 c s (atEnd p (putL b1 b2 p x) t)) := by
          show Tr.node q _ _ (tr (incM 1 p _)) = _
          rw [tr_inc]; rfl
        rw [this, hlen]; omega
    | false =>
      rw [if_neg (by decide), putL_node]
      rw [hwi, if_neg (by decide), putL_node] at hlen
      by_cases he : q = p
      · subst he
        rw [if_pos rfl] at hlen ⊢
        rw [inc_node, cov_is hp hp, if_pos (decide_eq_true (cov_self hp)), inc_stop hw.2.2.1 hw.2.2.2.2.1 (Int.le_refl _) hp, inc_stop hw.2.2.2.1 hw.2.2.2.2.2 (Int.le_refl _) hp]
        have h3 : Fit (.node b q x true (c + 1) s t) := fit_node (by
          have : tr (MT.node b q x true (c + 1) s t) = tr (MT.node b q x true c s t) := rfl
          rw [this, hlen]; omega) (fun h => by cases h) hf.2.2.1 hf.2.2.2
        split <;> exact h3
      · rw [if_neg he] at hlen ⊢
        have hn := (wi_no hq hp hwi).resolve_left (fun e => he e.symm)
        have hno : covP q p = false := by rw [cov_is hq hp]; exact decide_eq_false hn
        rw [insL_node, cov_is hp hq] at hlen ⊢
        by_cases hc : Cov p q
        · rw [if_pos (decide_eq_true hc)] at hlen ⊢
          have hs := cov_side hc (fun e => he e.symm) hq
          have hio : incM 1 p (.node b q x0 h0 c s t) = .node b q x0 h0 c s t := by rw [inc_node, hno]; rfl
          split
          · rename_i h1
            rw [if_pos h1] at hlen
            rw [inc_node, cov_is hp hp, if_pos (decide_eq_true (cov_self hp)), hio]
            have h3 : Fit (.node b1 p x true (c + 1) (.node b q x0 h0 c s t) .nil) := fit_node (by
              have : tr (MT.node b1 p x true (c + 1) (.node b q x0 h0 c s t) .nil) = tr (MT.node b1 p x true c (.node b q x0 h0 c s t) .nil) := rfl
              rw [this, hlen]
              have := hf.1
              omega) (fun h => by cases h) hf trivial
            split <;> exact h3
          · rename_i h1
            rw [if_neg h1] at hlen
            rw [inc_node, cov_is hp hp, if_pos (decide_eq_true (cov_self hp)), hio]
            have h3 : Fit (.node b1 p x true (c + 1) .nil (.node b q x0 h0 c s t)) := fit_node (by
              have : tr (MT.node b1 p x true (c + 1) .nil (.node b q x0 h0 c s t)) = tr (MT.node b1 p x true c .nil (.node b q x0 h0 c s t)) := rfl
              rw [this, hlen]
              have := hf.1
              omega) (fun h => by cases h) trivial hf
            split <;> exact h3
        · rw [if_neg (by rw [decide_eq_false hc]; decide)] at hlen ⊢
          obtain ⟨g1, g2, s1, s2, s3⟩ := com_sides hp hpa hq hw.1.2 hc hn
          have hcc := side_cov s1
          have hleaf : incM 1 p (.node b1 p x true 0 .nil .nil) = .node b1 p x true 1 .nil .nil := by
            rw [inc_node, cov_is hp hp, if_pos (decide_eq_true (cov_self hp))]
            split <;> rfl
          have hlf : Fit (.node b1 p x true 1 .nil .nil) := fit_node rfl (fun h => by cases h) trivial trivial
          split
          · rename_i h1
            rw [if_pos h1] at hlen
            rw [inc_node, cov_is g1 hp, if_pos (decide_eq_true hcc), if_pos h1, hleaf]
            exact fit_node (by
              have : tr (MT.node b2 (comP p q) 0 false (c + 1) (.node b1 p x true 1 .nil .nil) (.node b q x0 h0 c s t)) = tr (MT.node b2 (comP p q) 0 false c (.node b1 p x true 0 .nil .nil) (.node b q x0 h0 c s t)) := rfl
              rw [this, hlen]
              have := hf.1
              omega) (fun _ => rfl) hlf hf
          · rename_i h1
            rw [if_neg h1] at hlen
            rw [inc_node, cov_is g1 hp, if_pos (decide_eq_true hcc), if_neg h1, hleaf]
            exact fit_node (by
              have : tr (MT.node b2 (comP p q) 0 false (c + 1) (.node b q x0 h0 c s t) (.node b1 p x true 1 .nil .nil)) = tr (MT.node b2 (comP p q) 0 false c (.node b q x0 h0 c s t) (.node b1 p x true 0 .nil .nil)) := rfl
              rw [this, hlen]
              have := hf.1
              omega) (fun _ => rfl) hf hlf
end Go.Proofs.Ytpcahgnibdampaa.Tri
