/- Plain mathematics: what the program's Put and Cut do to a tree of nodes, in the words of the tree that it stands for. It calls no function of the program. Counts along a way: the trie's over, with the functions within Put and Cut. The contract of the trie's Put. -/
import Derived.Test.YtpcahgnibdampaaP25
import Derived.Test.YtpcahgnibdampaaP12
import Derived.Outline
import Derived.Deep.DeepCutAuto
import Derived.Deep.CutRange
import Derived.Deep.Cut
import Derived.Laws.Tables
import Derived.BigQuiet
import Derived.Deep.RegionHeld3
import Derived.Lib.QuietBelow
namespace Go.Proofs.Ytpcahgnibdampaa.Tri
open Go.RowKit Mem PR Pfx Oct
def atEnd (p : Pf) (g : MT → MT) : MT → MT
  | .nil => g .nil
  | .node b q x h c s t => if wiP q p then (if sd q p = 0 then .node b q x h c (atEnd p g s) t else .node b q x h c s (atEnd p g t)) else g (.node b q x h c s t)
theorem atEnd_node (p : Pf) (g : MT → MT) (b : Nat) (q : Pf) (x : Int) (h : Bool) (c : Int) (s t : MT) :
    atEnd p g (.node b q x h c s t) = if wiP q p then (if sd q p = 0 then .node b q x h c (atEnd p g s) t else .node b q x h c s (atEnd p g t)) else g (.node b q x h c s t) := rfl
theorem plug_down (p : Pf) (g : MT → MT) : ∀ (m : MT) (fs : List Fr), plug (down p fs m).1 (g (down p fs m).2) = plug fs (atEnd p g m)
  | .nil, _ => rfl
  | .node b q x h c s t, fs => by
    rw [atEnd_node]
    cases hw : wiP q p with
    | false => rw [down_stop hw]; rfl
    | true =>
      rw [if_pos rfl]
      rcases sd_two q p with h0 | h0
      · rw [down_low hw h0, plug_down p g s, if_pos h0]; rfl
      · rw [down_high hw h0, plug_down p g t, if_neg (by rw [h0]; decide)]; rfl
theorem down_plug (p : Pf) (m : MT) : plug (down p [] m).1 (down p [] m).2 = m := by
  have h := plug_down p id m []
  have : ∀ m, atEnd p id m = m := fun m => by
    induction m with
    | nil => rfl
    | node b q x h c s t ih1 ih2 =>
      rw [atEnd_node, ih1, ih2]
      split
      · split <;> rfl
      · rfl
  rw [this] at h
  exact h
def endM (p : Pf) : MT → MT
  | .nil => .nil
  | .node b q x h c s t => if wiP q p then (if sd q p = 0 then endM p s else endM p t) else .node b q x h c s t
theorem endM_node (p : Pf) (b : Nat) (q : Pf) (x : Int) (h : Bool) (c : Int) (s t : MT) : endM p (.node b q x h c s t) = if wiP q p then (if sd q p = 0 then endM p s else endM p t) else .node b q x h c s t := rfl
theorem down_end (p : Pf) : ∀ (m : MT) (fs : List Fr), (down p fs m).2 = endM p m
  | .nil, _ => rfl
  | .node b q x h c s t, fs => by
    rw [endM_node]
    cases hw : wiP q p with
    | false => rw [down_stop hw]; rfl
    | true =>
      rw [if_pos rfl]
      rcases sd_two q p with h0 | h0
      · rw [down_low hw h0, down_end p s, if_pos h0]
      · rw [down_high hw h0, down_end p t, if_neg (by rw [h0]; decide)]
def incM (d : Int) (p : Pf) : MT → MT
  | .nil => .nil
  | .node b q x h c s t => if covP q p then (if sd q p = 0 then .node b q x h (c + d) (incM d p s) t else .node b q x h (c + d) s (incM d p t)) else .node b q x h c s t
theorem inc_node (d : Int) (p : Pf) (b : Nat) (q : Pf) (x : Int) (h : Bool) (c : Int) (s t : MT) : incM d p (.node b q x h c s t) = if covP q p then (if sd q p = 0 then .node b q x h (c + d) (incM d p s) t else .node b q x h (c + d) s (incM d p t)) else .node b q x h c s t := rfl
theorem tr_inc (d : Int) (p : Pf) : ∀ (m : MT), tr (incM d p m) = tr m
  | .nil => rfl
  | .node b q x h c s t => by
    rw [inc_node]
    split
    · split
      · show Tr.node q _ (tr (incM d p s)) (tr t) = _
        rw [tr_inc d p s]; rfl
      · show Tr.node q _ (tr s) (tr (incM d p t)) = _
        rw [tr_inc d p t]; rfl
    · rfl
theorem cnt_inc (d : Int) (p : Pf) (a : Nat) : ∀ (m : MT), cnt (incM d p m) a = cnt m a
  | .nil => rfl
  | .node b q x h c s t => by
    rw [inc_node]
    split
    · split
      · simp only [cnt]; rw [cnt_inc d p a s]
      · simp only [cnt]; rw [cnt_inc d p a t]
    · rfl
theorem ptr_inc (d : Int) (p : Pf) (m : MT) : ptr (incM d p m) = ptr m := by
  cases m with
  | nil => rfl
  | node b q x h c s t =>
    rw [inc_node]
    split
    · split <;> rfl
    · rfl
theorem inc_ends {d : Int} {p : Pf} {m : MT} (h : Ends p m) : incM d p m = m := by
  cases m with
  | nil => rfl
  | node b q x hh c s t =>
    have h : covP q p = false := h
    rw [inc_node, h]; rfl
theorem inc_stop {q : Pf} {i : Nat} {m : MT} {p : Pf} {d : Int} (hi : In q i (tr m)) (hw : WF (tr m)) (hn : p.n ≤ q.n) (hp : goodP p = true) : incM d p m = m := by
  cases m with
  | nil => rfl
  | node b r x h c s t => rw [inc_node, sub_stop hi hw hn hp rfl]; rfl
def putL (b1 b2 : Nat) (p : Pf) (x : Int) : MT → MT
  | .nil => insL b1 b2 p x true .nil
  | .node b q x0 h0 c s t => if q = p then .node b q x true c s t else insL b1 b2 p x true (.node b q x0 h0 c s t)
theorem putL_node (b1 b2 : Nat) (p : Pf) (x : Int) (b : Nat) (q : Pf) (x0 : Int) (h0 : Bool) (c : Int) (s t : MT) : putL b1 b2 p x (.node b q x0 h0 c s t) = if q = p then .node b q x true c s t else insL b1 b2 p x true (.node b q x0 h0 c s t) := rfl
theorem tr_ins {b1 b2 : Nat} {p : Pf} {x : Int} {b : Nat} {q : Pf} {x0 : Int} {h0 : Bool} {c : Int} {s t : MT} (hp : goodP p = true) (hpa : p.a < 4294967296) (hq : goodP q = true) (hqa : q.a < 4294967296) (hne : p ≠ q) (hn : ¬ Cov q p) :
    tr (insL b1 b2 p x true (.node b q x0 h0 c s t)) = putT (tr (.node b q x0 h0 c s t)) p x := by
  have e : tr (.node b q x0 h0 c s t) = .node q (if h0 then some x0 else none) (tr s) (tr t) := rfl
  rw [insL_node, cov_is hp hq]
  unfold putT
  rw [e]
  simp only []
  rw [if_neg hne, if_neg hn]
  by_cases hc : Cov p q
  · rw [if_pos (decide_eq_true hc), if_pos hc]
    have hs := cov_side hc hne hq
    rw [sd_bit hs.1 (good_len hq).2]
    unfold join
    split <;> rfl
  · rw [if_neg (by rw [decide_eq_false hc]; decide), if_neg hc]
    obtain ⟨g1, g2, s1, s2, s3⟩ := com_sides hp hpa hq hqa hc hn
    rw [sd_bit s1.1 (good_len hp).2]
    unfold join
    split <;> rfl
theorem tr_put (b1 b2 : Nat) (p : Pf) (x : Int) (hp : goodP p = true) (hpa : p.a < 4294967296) : ∀ (m : MT), WF (tr m) → tr (atEnd p (putL b1 b2 p x) m) = putT (tr m) p x
  | .nil, _ => rfl
  | .node b q x0 h0 c s t, hw => by
    have hq := hw.1.1
    rw [atEnd_node]
    cases hwi : wiP q p with
    | true =>
      obtain ⟨-, hne, hc, hl⟩ := wi_yes hq hwi
      have hb := wi_sd hq hwi
      have e : tr (.node b q x0 h0 c s t) = .node q (if h0 then some x0 else none) (tr s) (tr t) := rfl
      rw [if_pos rfl, e]
      unfold putT
      rw [if_neg hne, if_pos hc, hb]
      split
      · show Tr.node q _ (tr (atEnd p _ s)) (tr t) = _
        rw [tr_put b1 b2 p x hp hpa s hw.2.2.2.2.1]
      · show Tr.node q _ (tr s) (tr (atEnd p _ t)) = _
        rw [tr_put b1 b2 p x hp hpa t hw.2.2.2.2.2]
    | false =>
      rw [if_neg (by decide), putL_node]
      by_cases he : q = p
      · subst he
        rw [if_pos rfl]
        have e : tr (.node b q x0 h0 c s t) = .node q (if h0 then some x0 else none) (tr s) (tr t) := rfl
        rw [e]
        unfold putT
        rw [if_pos rfl]; rfl
      · rw [if_neg he]
        have hn := (wi_no hq hp hwi).resolve_left (fun e => he e.symm)
        exact tr_ins hp hpa hq hw.1.2 (fun e => he e.symm) hn
theorem len_put (t : Tr) (p : Pf) (v : Int) (hw : WF t) (hp : goodP p = true ∧ p.a < 4294967296) : (ents (putT t p v)).length = (ents t).length + (if getT t p = none then 1 else 0) := by
  rw [ents_put t p v hw hp, get_ents t p hw]
  have ho := ents_ord t hw
  generalize ents t = l at *
  induction l with
  | nil => rfl
  | cons e l ih =>
    unfold Ord at ho
    rw [List.pairwise_cons] at ho
    have ih := ih ho.2
    unfold putE
    by_cases he : e.p = p
    · rw [if_pos he]
      have : getE (e :: l) p = some e.v := by unfold getE; simp [he]
      rw [this]; simp
    · rw [if_neg he]
      have h2 : getE (e :: l) p = getE l p := by unfold getE; simp [he]
      rw [h2]
      split
      · rw [List.length_cons, List.length_cons, ih]; omega
      · rename_i hnl
        have hn : p ∉ keys l := fun hk => by
          obtain ⟨z, hz, e2⟩ := List.mem_map.1 hk
          have h3 := ho.1 z hz
          rw [e2] at h3
          exact hnl h3
        rw [get_none.2 hn]; simp
theorem cnt_ins (b1 b2 : Nat) (p : Pf) (x : Int) (h : Bool) (a : Nat) (m : MT) : cnt (insL b1 b2 p x h m) a ≤ cnt m a + (if b1 = a then 1 else 0) + (if b2 = a then 1 else 0) := by
  cases m with
  | nil => simp only [insL, cnt]; omega
  | node b q x0 h0 c s t =>
    rw [insL_node]
    split
    · split <;> simp only [cnt] <;> omega
    · split <;> simp only [cnt] <;> omega
theorem fit_node {b : Nat} {q : Pf} {x : Int} {h : Bool} {c : Int} {s t : MT} (hc : c = ((ents (tr (.node b q x h c s t))).length : Int)) (hx : h = false → x = 0) (hs : Fit s) (ht : Fit t) : Fit (.node b q x h c s t) := ⟨hc, hx, hs, ht⟩
theorem fit_set (b1 b2 : Nat) (p : Pf) (x : Int) (hp : goodP p = true) (hpa : p.a < 4294967296) : ∀ (m : MT), Fit m → WF (tr m) → (getT (tr m) p).isSome = true → Fit (atEnd p (putL b1 b2 p x) m)
  | .nil, _, _, h => by cases h
  | .node b q x0 h0 c s t, hf, hw, hg => by
    have hq := hw.1.1
    have htr := tr_put b1 b2 p x hp hpa (.node b q x0 h0 c s t) hw
    have hlen := len_put (tr (.node b q x0 h0 c s t)) p x hw ⟨hp, hpa⟩
    rw [if_neg (by intro e; rw [e] at hg; cases hg), ← htr] at hlen
    have e : tr (.node b q x0 h0 c s t) = .node q (if h0 then some x0 else none) (tr s) (tr t) := rfl
    rw [atEnd_node] at hlen ⊢
    cases hwi : wiP q p with
    | true =>
      obtain ⟨-, hne, hc, hl⟩ := wi_yes hq hwi
      have hb := wi_sd hq hwi
      rw [e] at hg
      unfold getT at hg
      rw [if_neg hne, if_pos hc] at hg
      rw [hwi, if_pos rfl, hb] at hlen
      rw [if_pos rfl, hb]
      split
      · rename_i h1
        rw [if_pos h1] at hlen hg
        exact fit_node (by rw [hlen]; exact hf.1) hf.2.1 (fit_set b1 b2 p x hp hpa s hf.2.2.1 hw.2.2.2.2.1 hg) hf.2.2.2
      · rename_i h1
        rw [if_neg h1] at hlen hg
        exact fit_node (by rw [hlen]; exact hf.1) hf.2.1 hf.2.2.1 (fit_set b1 b2 p x hp hpa t hf.2.2.2 hw.2.2.2.2.2 hg)
    | false =>
      rw [if_neg (by decide), putL_node]
      rw [hwi, if_neg (by decide), putL_node] at hlen
      by_cases he : q = p
      · subst he
        rw [if_pos rfl] at hlen ⊢
        exact fit_node (by rw [hlen]; exact hf.1) (fun h => by cases h) hf.2.2.1 hf.2.2.2
      · have hn := (wi_no hq hp hwi).resolve_left (fun e => he e.symm)
        rw [e] at hg
        unfold getT at hg
        rw [if_neg (fun e => he e.symm), if_neg hn] at hg
        cases hg
theorem fit_new (b1 b2 : Nat) (p : Pf) (x : Int) (hp : goodP p = true) (hpa : p.a < 4294967296) : ∀ (m : MT), Fit m → WF (tr m) → getT (tr m) p = none → Fit (incM 1 p (atEnd p (putL b1 b2 p x) m))
  | .nil, _, _, _ => by
    show Fit (incM 1 p (.node b1 p x true 0 .nil .nil))
    rw [inc_node, cov_is hp hp, if_pos (decide_eq_true (cov_self hp))]
    split <;> exact fit_node rfl (fun h => by cases h) trivial trivial
  | .node b q x0 h0 c s t, hf, hw, hg => by
    have hq := hw.1.1
    have htr := tr_put b1 b2 p x hp hpa (.node b q x0 h0 c s t) hw
    have hlen := len_put (tr (.node b q x0 h0 c s t)) p x hw ⟨hp, hpa⟩
    rw [if_pos hg, ← htr] at hlen
    have e : tr (.node b q x0 h0 c s t) = .node q (if h0 then some x0 else none) (tr s) (tr t) := rfl
    have hfc := hf.1
    rw [atEnd_node] at hlen ⊢
    cases hwi : wiP q p with
    | true =>
      obtain ⟨-, hne, hc, hl⟩ := wi_yes hq hwi
      have hb := wi_sd hq hwi
      rw [e] at hg
      unfold getT at hg
      rw [if_neg hne, if_pos hc] at hg
      rw [hwi, if_pos rfl, hb] at hlen
      rw [if_pos rfl, hb]
      split
      · rename_i h1
        rw [if_pos h1] at hlen hg
        rw [inc_node, cov_is hq hp, if_pos (decide_eq_true hc), hb, if_pos h1]
        refine fit_node ?_ hf.2.1 (fit_new b1 b2 p x hp hpa s hf.2.2.1 hw.2.2.2.2.1 hg) hf.2.2.2
        have : tr (MT.node b q x0 h0 (c + 1) (incM 1 p (atEnd p (putL b1 b2 p x) s)) t) = tr (MT.node b q x0 h0 c (atEnd p (putL b1 b2 p x) s) t) := by
          show Tr.node q _ (tr (incM 1 p _)) _ = _
          rw [tr_inc]; rfl
        rw [this, hlen]; omega
      · rename_i h1
        rw [if_neg h1] at hlen hg
        rw [inc_node, cov_is hq hp, if_pos (decide_eq_true hc), hb, if_neg h1]
        refine fit_node ?_ hf.2.1 hf.2.2.1 (fit_new b1 b2 p x hp hpa t hf.2.2.2 hw.2.2.2.2.2 hg)
        have : tr (MT.node b q x0 h0 (c + 1) s (incM 1 p (atEnd p (putL b1 b2 p x) t))) = tr (MT.node b q x0 h0 c s (atEnd p (putL b1 b2 p x) t)) := by
          show Tr.node q _ _ (tr (incM 1 p _)) = _
          rw [tr_inc]; rfl
        rw [this, hlen]; omega
    | false =>
      rw [if_neg (by decide), putL_node]
      rw [hwi, if_neg (by decide), putL_node] at hlen
      by_cases he : q = p
      · subst he
        rw [if_pos rfl] at hlen ⊢
        rw [inc_node, cov_is hp hp, if_pos (decide_eq_true (cov_self hp)), inc_stop hw.2.2.1 hw.2.2.2.2.1 (Int.le_refl _) hp, inc_stop hw.2.2.2.1 hw.2.2.2.2.2 (Int.le_refl _) hp]
        have h3 : Fit (.node b q x true (c + 1) s t) := fit_node (by
          have : tr (MT.node b q x true (c + 1) s t) = tr (MT.node b q x true c s t) := rfl
          rw [this, hlen]; omega) (fun h => by cases h) hf.2.2.1 hf.2.2.2
        split <;> exact h3
      · rw [if_neg he] at hlen ⊢
        have hn := (wi_no hq hp hwi).resolve_left (fun e => he e.symm)
        have hno : covP q p = false := by rw [cov_is hq hp]; exact decide_eq_false hn
        rw [insL_node, cov_is hp hq] at hlen ⊢
        by_cases hc : Cov p q
        · rw [if_pos (decide_eq_true hc)] at hlen ⊢
          have hs := cov_side hc (fun e => he e.symm) hq
          have hio : incM 1 p (.node b q x0 h0 c s t) = .node b q x0 h0 c s t := by rw [inc_node, hno]; rfl
          split
          · rename_i h1
            rw [if_pos h1] at hlen
            rw [inc_node, cov_is hp hp, if_pos (decide_eq_true (cov_self hp)), hio]
            have h3 : Fit (.node b1 p x true (c + 1) (.node b q x0 h0 c s t) .nil) := fit_node (by
              have : tr (MT.node b1 p x true (c + 1) (.node b q x0 h0 c s t) .nil) = tr (MT.node b1 p x true c (.node b q x0 h0 c s t) .nil) := rfl
              rw [this, hlen]
              have := hf.1
              omega) (fun h => by cases h) hf trivial
            split <;> exact h3
          · rename_i h1
            rw [if_neg h1] at hlen
            rw [inc_node, cov_is hp hp, if_pos (decide_eq_true (cov_self hp)), hio]
            have h3 : Fit (.node b1 p x true (c + 1) .nil (.node b q x0 h0 c s t)) := fit_node (by
              have : tr (MT.node b1 p x true (c + 1) .nil (.node b q x0 h0 c s t)) = tr (MT.node b1 p x true c .nil (.node b q x0 h0 c s t)) := rfl
              rw [this, hlen]
              have := hf.1
              omega) (fun h => by cases h) trivial hf
            split <;> exact h3
        · rw [if_neg (by rw [decide_eq_false hc]; decide)] at hlen ⊢
          obtain ⟨g1, g2, s1, s2, s3⟩ := com_sides hp hpa hq hw.1.2 hc hn
          have hcc := side_cov s1
          have hleaf : incM 1 p (.node b1 p x true 0 .nil .nil) = .node b1 p x true 1 .nil .nil := by
            rw [inc_node, cov_is hp hp, if_pos (decide_eq_true (cov_self hp))]
            split <;> rfl
          have hlf : Fit (.node b1 p x true 1 .nil .nil) := fit_node rfl (fun h => by cases h) trivial trivial
          split
          · rename_i h1
            rw [if_pos h1] at hlen
            rw [inc_node, cov_is g1 hp, if_pos (decide_eq_true hcc), if_pos h1, hleaf]
            exact fit_node (by
              have : tr (MT.node b2 (comP p q) 0 false (c + 1) (.node b1 p x true 1 .nil .nil) (.node b q x0 h0 c s t)) = tr (MT.node b2 (comP p q) 0 false c (.node b1 p x true 0 .nil .nil) (.node b q x0 h0 c s t)) := rfl
              rw [this, hlen]
              have := hf.1
              omega) (fun _ => rfl) hlf hf
          · rename_i h1
            rw [if_neg h1] at hlen
            rw [inc_node, cov_is g1 hp, if_pos (decide_eq_true hcc), if_neg h1, hleaf]
            exact fit_node (by
              have : tr (MT.node b2 (comP p q) 0 false (c + 1) (.node b q x0 h0 c s t) (.node b1 p x true 1 .nil .nil)) = tr (MT.node b2 (comP p q) 0 false c (.node b q x0 h0 c s t) (.node b1 p x true 0 .nil .nil)) := rfl
              rw [this, hlen]
              have := hf.1
              omega) (fun _ => rfl) hf hlf
end Go.Proofs.Ytpcahgnibdampaa.Tri
namespace Go.Proofs.Ytpcahgnibdampaa.Tri
open Go.RowKit Mem PR Pfx Oct
theorem plug_ptr : ∀ (fs : List Fr) (a b : MT), ptr a = ptr b → ptr (plug fs a) = ptr (plug fs b)
  | [], _, _, h => h
  | f :: fs, a, b, _ => plug_ptr fs (f.put a) (f.put b) (by rw [f.ptr_put, f.ptr_put])
theorem poke {W W' : World} {tb : Nat} {fs : List Fr} {b : Nat} {q : Pf} {x x2 : Int} {h h2 : Bool} {c c2 : Int} {s t : MT} (hT : TreeM W tb (plug fs (.node b q x h c s t))) (hn : Nd W' b q x2 h2 c2 (ptr s) (ptr t)) (ho : ∀ k, k ≠ b → W'.heap[k]? = W.heap[k]?) : TreeM W' tb (plug fs (.node b q x2 h2 c2 s t)) := by
  obtain ⟨h1, h3, h4⟩ := hT
  have hc := h4 b
  rw [cnt_plug] at hc
  simp only [cnt, if_pos] at hc
  obtain ⟨k1, k2⟩ := (mt_plug fs _ W).1 h3
  have hne : ∀ k, (k = tb ∨ 0 < cntC fs k ∨ 0 < cnt s k ∨ 0 < cnt t k) → k ≠ b := fun k hk e => by
    subst e
    rcases hk with hk | hk
    · rw [if_pos hk.symm] at hc; omega
    · omega
  refine ⟨?_, ?_, fun a => ?_⟩
  · rw [ho tb (hne tb (.inl rfl)), h1]
    rw [plug_ptr fs (.node b q x2 h2 c2 s t) (.node b q x h c s t) rfl]
  · refine (mt_plug fs _ W').2 ⟨?_, hn, k2.2.1.keep (fun k hk => ho k (hne k (.inr (.inr (.inl hk))))), k2.2.2.keep (fun k hk => ho k (hne k (.inr (.inr (.inr hk)))))⟩
    exact MtC.keep (W := W) (v := .pointer (some ⟨b, 0, none⟩)) k1 (fun k hk => ho k (hne k (.inr (.inl hk))))
  · have := h4 a
    rw [cnt_plug] at this ⊢
    simpa only [cnt] using this
def CB : MT → Prop
  | .nil => True
  | .node _ _ _ _ c s t => (-10 ≤ c ∧ c ≤ 2000) ∧ CB s ∧ CB t
structure RI (W2 : World) (tb n0 : Nat) (d : Int) (p : Pf) (M : MT) (m : MT) (W : World) : Prop where
  ex : ∃ fs, TreeM W tb (plug fs m) ∧ plug fs (incM d p m) = incM d p M ∧ ∀ a, cnt (plug fs m) a = cnt M a
  wf : WF (tr m)
  cb : CB m
  only : Only (Blks tb M) W2 W
  hs : W2.heap.size ≤ W.heap.size
theorem ri_goes {W2 : World} {tb n0 : Nat} {d : Int} {p : Pf} {M : MT} : Goes (RI W2 tb n0 d p M) where
  keep := fun {m W W'} h hb => by
    obtain ⟨fs, h1, h2, h3⟩ := h.ex
    exact { h with ex := ⟨fs, h1.below hb, h2, h3⟩, only := h.only.trans (Only.of hb), hs := Nat.le_trans h.hs hb.size }
  nd := fun h => by
    obtain ⟨fs, h1, -, -⟩ := h.ex
    exact ⟨((mt_plug fs _ _).1 h1.2.1).2.1, h.wf.1⟩
def Counts (k : FuncId) (d : Int) : Prop := ∀ (b : Nat) (q : Pf) (x : Int) (h : Bool) (c : Int) (k0 k1 : Value) (W : World), Nd W b q x h c k0 k1 → -1000000 < c → c < 1000000 →
  Calls Try.prog k #[.pointer (some ⟨b, 0, none⟩)] W fun e W' => e = .returned (.tuple #[]) ∧ W' = W.setCell ⟨b, 4, none⟩ (.int .i64 (c + d))
theorem ri_visits {k : FuncId} {d : Int} (hk : Counts k d) {W2 : World} {tb n0 : Nat} {p : Pf} {M : MT} (hlow : ∀ a, Blks tb M a → a < W2.heap.size) (hn0 : W2.heap.size ≤ n0) : Visits k #[] p n0 (RI W2 tb n0 d p M) := by
  intro b q x h c s t W hn hr hc
  obtain ⟨fs, h1, h2, h3⟩ := hr.ex
  have hnd : Nd W b q x h c (ptr s) (ptr t) := ((mt_plug fs _ W).1 h1.2.1).2.1
  have hcb := hr.cb.1
  have hbM : Blks tb M b := .inr (by rw [← h3 b, cnt_plug]; simp only [cnt, if_pos]; omega)
  have hbn : b ≠ n0 := fun e => by have := hlow b hbM; omega
  refine (hk b q x h c (ptr s) (ptr t) W hnd (by omega) (by omega)).mono ?_
  rintro e W' ⟨rfl, rfl⟩
  have hnd2 : Nd (W.setCell ⟨b, 4, none⟩ (.int .i64 (c + d))) b q x h (c + d) (ptr s) (ptr t) := heap_set (i := 4) _ hnd
  have hT2 := poke h1 hnd2 (fun k hk => set_ne hk)
  refine ⟨rfl, by simp [World.setCell], set_ne (fun e => hbn e.symm), ⟨x, h, c + d, hnd2⟩, ?_⟩
  have hcn : ∀ a, cnt (plug fs (.node b q x h (c + d) s t)) a = cnt M a := fun a => by
    rw [← h3 a, cnt_plug, cnt_plug]; simp only [cnt]
  have honly : Only (Blks tb M) W2 (W.setCell ⟨b, 4, none⟩ (.int .i64 (c + d))) := hr.only.set hbM _
  have hsz : W2.heap.size ≤ (W.setCell ⟨b, 4, none⟩ (.int .i64 (c + d))).heap.size := by simpa [World.setCell] using hr.hs
  rw [inc_node, if_pos hc] at h2
  unfold kidM
  rcases sd_two q p with h0 | h0
  · rw [if_pos h0] at h2 ⊢
    exact ⟨⟨⟨b, q, x, h, c + d, false, t⟩ :: fs, hT2, h2, hcn⟩, hr.wf.2.2.2.2.1, hr.cb.2.1, honly, hsz⟩
  · rw [if_neg (by rw [h0]; decide)] at h2 ⊢
    exact ⟨⟨⟨b, q, x, h, c + d, true, s⟩ :: fs, hT2, h2, hcn⟩, hr.wf.2.2.2.2.2, hr.cb.2.2, honly, hsz⟩
theorem inc_any {k : FuncId} {d : Int} (hent : Enters k) (hk : Counts k d) (p : Pf) (hp : p.ok) {W : World} {tb : Nat} {M : MT} (hT : TreeM W tb M) (hw : WF (tr M)) (hc : CB M) :
    Calls Try.prog 33 #[ptr M, pV p, .func (.func k) #[] #[]] W fun e W' => e = .returned (.tuple #[]) ∧ TreeM W' tb (incM d p M) ∧ Only (Blks tb M) W W' := by
  refine (over_any k #[] hent p hp (RI W tb W.heap.size d p M) ri_goes M W ⟨⟨[], hT, rfl, fun _ => rfl⟩, hw, hc, Only.refl _ _, Nat.le_refl _⟩ (ri_visits hk hT.low (Nat.le_refl _))).mono ?_
  rintro e W' ⟨rfl, m', hr, he⟩
  obtain ⟨fs, h1, h2, -⟩ := hr.ex
  rw [inc_ends he] at h2
  exact ⟨rfl, h2 ▸ h1, hr.only⟩
theorem counts_put : Counts 45 1 := fun _ _ _ _ _ _ _ _ hn h0 h1 => put1_any hn h0 h1
theorem counts_cut : Counts 46 (-1) := fun _ _ _ _ _ _ _ _ hn h0 h1 => cut1_any hn h0 h1
end Go.Proofs.Ytpcahgnibdampaa.Tri
namespace Go.Proofs.Ytpcahgnibdampaa.Tri
open Go.RowKit Mem PR Pfx Oct
theorem plug_app : ∀ (gs fs : List Fr) (N : MT), plug (gs ++ fs) N = plug fs (plug gs N)
  | [], _, _ => rfl
  | g :: gs, fs, N => plug_app gs fs (g.put N)
theorem ins_form (b1 b2 : Nat) (p : Pf) (m : MT) : ∃ (gs : List Fr) (c : Int) (s t : MT), ∀ x h, insL b1 b2 p x h m = plug gs (.node b1 p x h c s t) := by
  cases m with
  | nil => exact ⟨[], 0, .nil, .nil, fun _ _ => rfl⟩
  | node b q x0 h0 c s t =>
    by_cases hc : covP p q = true
    · by_cases h0' : sd p q = 0
      · exact ⟨[], c, .node b q x0 h0 c s t, .nil, fun x h => by rw [insL_node, if_pos hc, if_pos h0']; rfl⟩
      · exact ⟨[], c, .nil, .node b q x0 h0 c s t, fun x h => by rw [insL_node, if_pos hc, if_neg h0']; rfl⟩
    · by_cases h0' : sd (comP p q) p = 0
      · exact ⟨[⟨b2, comP p q, 0, false, c, false, .node b q x0 h0 c s t⟩], 0, .nil, .nil, fun x h => by rw [insL_node, if_neg hc, if_pos h0']; rfl⟩
      · exact ⟨[⟨b2, comP p q, 0, false, c, true, .node b q x0 h0 c s t⟩], 0, .nil, .nil, fun x h => by rw [insL_node, if_neg hc, if_neg h0']; rfl⟩
theorem get_end : ∀ (m : MT) (p : Pf), WF (tr m) → goodP p = true → told p (endM p m) = getT (tr m) p
  | .nil, _, _, _ => rfl
  | .node b q x h c s t, p, hw, hp => by
    have hq := hw.1.1
    have e : tr (.node b q x h c s t) = .node q (if h then some x else none) (tr s) (tr t) := rfl
    rw [e, endM_node]
    unfold getT
    cases hwi : wiP q p with
    | true =>
      obtain ⟨-, hne, hc, hl⟩ := wi_yes hq hwi
      have hb := wi_sd hq hwi
      rw [if_pos rfl, if_neg hne, if_pos hc, hb]
      split
      · exact get_end s p hw.2.2.2.2.1 hp
      · exact get_end t p hw.2.2.2.2.2 hp
    | false =>
      rw [if_neg (by decide), told_node]
      by_cases he : q = p
      · subst he
        rw [if_pos rfl, if_pos rfl]
      · have hn := (wi_no hq hp hwi).resolve_left (fun e => he e.symm)
        rw [if_neg he, if_neg (fun e => he e.symm), if_neg hn]
theorem cb_fit : ∀ (m : MT), Fit m → (ents (tr m)).length ≤ 1000 → CB m
  | .nil, _, _ => trivial
  | .node b q x h c s t, hf, hl => by
    have e : (ents (tr (.node b q x h c s t))).length = (topE q (if h then some x else none)).length + ((ents (tr s)).length + (ents (tr t)).length) := by
      show (topE q (if h then some x else none) ++ (ents (tr s) ++ ents (tr t))).length = _
      rw [List.length_append, List.length_append]
    have hc := hf.1
    exact ⟨by omega, cb_fit s hf.2.2.1 (by omega), cb_fit t hf.2.2.2 (by omega)⟩
theorem cb_put (b1 b2 : Nat) (p : Pf) (x : Int) : ∀ (m : MT), CB m → CB (atEnd p (putL b1 b2 p x) m)
  | .nil, _ => ⟨by decide, trivial, trivial⟩
  | .node b q x0 h0 c s t, h => by
    rw [atEnd_node]
    split
    · split
      · exact ⟨h.1, cb_put b1 b2 p x s h.2.1, h.2.2⟩
      · exact ⟨h.1, h.2.1, cb_put b1 b2 p x t h.2.2⟩
    · rw [putL_node]
      split
      · exact h
      · rw [insL_node]
        have hz : CB (.node b1 p x true 0 .nil .nil) := ⟨by decide, trivial, trivial⟩
        split
        · split
          · exact ⟨h.1, h, trivial⟩
          · exact ⟨h.1, trivial, h⟩
        · split
          · exact ⟨h.1, hz, h⟩
          · exact ⟨h.1, h, hz⟩
theorem only_grow {F G : Nat → Prop} {a b c : World} (h : Only F a b) (k : Only G b c) (hg : ∀ i, G i → F i ∨ a.heap.size ≤ i) : Only F a c :=
  ⟨k.os.trans h.os, k.tape.trans h.tape, k.output.trans h.output, Nat.le_trans h.size k.size, fun i hi hf => (k.block i (Nat.lt_of_lt_of_le hi h.size) (fun hG => (hg i hG).elim hf (fun h2 => by omega))).trans (h.block i hi hf)⟩
structure Mid (W : World) (tb : Nat) (m : MT) (p : Pf) (x : Int) (bn : Nat) (xx : Int) (h : Bool) (w : World) : Prop where
  ex : ∃ (fs : List Fr) (c : Int) (s t : MT) (b1 b2 : Nat), TreeM w tb (plug fs (.node bn p xx h c s t)) ∧ plug fs (.node bn p x true c s t) = atEnd p (putL b1 b2 p x) m ∧ ∀ k, 0 < cnt (plug fs (.node bn p xx h c s t)) k → Blks tb m k ∨ W.heap.size < k
  told : told p (endM p m) = if h then some xx else none
  zero : h = false → xx = 0
  only : Only (Blks tb m) W w
  box : w.heap[W.heap.size]? = some (.cells #[.int .u32 (p.a : Int), .int .i64 p.n] 25)
  bn : bn ≠ W.heap.size
theorem fit_plug : ∀ (fs : List Fr) (m : MT), Fit (plug fs m) → Fit m
  | [], _, h => h
  | f :: fs, m, h => by
    have h2 := fit_plug fs (f.put m) h
    unfold Fr.put at h2
    split at h2
    · exact h2.2.2.2
    · exact h2.2.2.1
theorem Mid.keep {W w w2 : World} {tb : Nat} {m : MT} {p : Pf} {x : Int} {bn : Nat} {xx : Int} {h : Bool} (hm : Mid W tb m p x bn xx h w) (hs : W.heap.size < w.heap.size) (hb : Below w.heap.size w w2) : Mid W tb m p x bn xx h w2 := by
  obtain ⟨fs, c, s, t, b1, b2, k1, k2, k3⟩ := hm.ex
  exact { hm with ex := ⟨fs, c, s, t, b1, b2, k1.below hb, k2, k3⟩, only := hm.only.trans (Only.of hb), box := (hb.block _ hs).trans hm.box }
theorem end_wi (p : Pf) : ∀ (m : MT) {b : Nat} {q : Pf} {x : Int} {h : Bool} {c : Int} {s t : MT}, endM p m = .node b q x h c s t → wiP q p = false
  | .nil, _, _, _, _, _, _, _, e => by cases e
  | .node b q x h c s t, b2, q2, x2, h2, c2, s2, t2, e => by
    rw [endM_node] at e
    cases hw : wiP q p with
    | true =>
      rw [hw, if_pos rfl] at e
      split at e
      · exact end_wi p s e
      · exact end_wi p t e
    | false =>
      rw [hw, if_neg (by decide)] at e
      injection e with _ e2
      rw [← e2]; exact hw
theorem ins_any {w : World} {hb hi : Nat} (p : Pf) (S : MT) (ha : At w hb hi (ptr S)) (hm : Mt w S) (hgm : GoodM S) (hp : goodP p = true) (hpa : p.a < 4294967296) (hno : ∀ b q x h c s t, S = .node b q x h c s t → q ≠ p ∧ wiP q p = false) :
    Calls Try.prog 44 #[.pointer (some ⟨hb, hi, none⟩), pV p] w (InsF hb hi p S w) := by
  rcases nil_or S with rfl | ⟨b, q, x, h, c, s, t, rfl⟩
  · exact insert_nil p ha
  · obtain ⟨h1, h2⟩ := hno _ _ _ _ _ _ _ rfl
    have hn := (wi_no hgm.1.1 hp h2).resolve_left (fun e => h1 e.symm)
    by_cases hc : Cov p q
    · exact insert_over p ha hm hp hpa hgm.1.1 hgm.1.2 hc
    · exact insert_both p ha hm hp hpa hgm.1.1 hgm.1.2 hc hn
theorem mid_old {W w : World} {tb : Nat} {m : MT} {p : Pf} (x : Int) {bn : Nat} {xx : Int} {h : Bool} {c : Int} {s t : MT} (hT : TreeM W tb m) (hf : Fit m) (he : (down p [] m).2 = .node bn p xx h c s t) (hb : Below W.heap.size W w) (hbox : w.heap[W.heap.size]? = some (.cells #[.int .u32 (p.a : Int), .int .i64 p.n] 25)) : Mid W tb m p x bn xx h w := by
  have h1 := down_plug p m
  rw [he] at h1
  have h2 := plug_down p (putL 0 0 p x) m []
  rw [he, putL_node, if_pos rfl] at h2
  have hlow := hT.low
  have hbn : Blks tb m bn := .inr (by rw [← h1, cnt_plug]; simp only [cnt, if_pos]; omega)
  have hend : endM p m = .node bn p xx h c s t := by rw [← he, down_end]
  have hfit : Fit (.node bn p xx h c s t) := by rw [← h1] at hf; exact fit_plug _ _ hf
  exact { ex := ⟨_, c, s, t, 0, 0, by rw [h1]; exact hT.below hb, h2, fun k hk => .inl (.inr (by rw [h1] at hk; exact hk))⟩, told := by rw [hend, told_node, if_pos rfl], zero := hfit.2.1, only := Only.of hb, box := hbox, bn := fun e => by have := hlow bn hbn; omega }
theorem mid_new {W w w9 : World} {tb hb hi b1 b2 : Nat} {m : MT} {p : Pf} (x : Int) (hT : TreeM W tb m) (hh : hereA tb (down p [] m).1 = ⟨hb, hi, none⟩) (hbw : Below W.heap.size W w) (hsz : W.heap.size < w.heap.size) (hbox : w.heap[W.heap.size]? = some (.cells #[.int .u32 (p.a : Int), .int .i64 p.n] 25))
    (h1 : w.heap.size ≤ b1) (h2 : w.heap.size ≤ b2) (h12 : b1 ≠ b2) (hb9 : Below w.heap.size w w9) (hM : Mt w9 (insL b1 b2 p 0 false (down p [] m).2)) (hno : told p (endM p m) = none) (hne : ∀ b q x0 h0 c s t, (down p [] m).2 = .node b q x0 h0 c s t → q ≠ p) :
    Mid W tb m p x b1 0 false (w9.setCell ⟨hb, hi, none⟩ (ptr (insL b1 b2 p 0 false (down p [] m).2))) := by
  obtain ⟨gs, c, s, t, hgs⟩ := ins_form b1 b2 p (down p [] m).2
  have hpl := down_plug p m
  have hT9 : TreeM w9 tb (plug (down p [] m).1 (down p [] m).2) := by rw [hpl]; exact hT.below (Pfx.Below.tr hbw hb9)
  have hcnt : ∀ a, cnt (plug (down p [] m).1 (insL b1 b2 p 0 false (down p [] m).2)) a ≤ cnt m a + (if b1 = a then 1 else 0) + (if b2 = a then 1 else 0) := fun a => by
    have h5 := cnt_ins b1 b2 p 0 false a (down p [] m).2
    have h6 := cnt_plug (down p [] m).1 (down p [] m).2 a
    rw [hpl] at h6
    rw [cnt_plug]; omega
  have hlow := hT.low
  have hz : ∀ a, W.heap.size ≤ a → cnt m a = 0 ∧ tb ≠ a := fun a ha => by
    constructor
    · rcases Nat.eq_zero_or_pos (cnt m a) with h | h
      · exact h
      · have := hlow a (.inr h); omega
    · intro e; have := hlow a (.inl e.symm); omega
  have hone : ∀ a, (if tb = a then 1 else 0) + cnt (plug (down p [] m).1 (insL b1 b2 p 0 false (down p [] m).2)) a ≤ 1 := fun a => by
    have h5 := hcnt a
    have h6 := hT.2.2 a
    by_cases ha : W.heap.size ≤ a
    · obtain ⟨h7, h8⟩ := hz a ha
      rw [if_neg h8]
      split at h5 <;> split at h5 <;> omega
    · rw [if_neg (show ¬ b1 = a by omega), if_neg (show ¬ b2 = a by omega)] at h5
      omega
  have hT10 := hang hT9 hM hone
  rw [hh, hgs 0 false, ← plug_app] at hT10
  have hput := plug_down p (putL b1 b2 p x) m []
  have hL : putL b1 b2 p x (down p [] m).2 = insL b1 b2 p x true (down p [] m).2 := by
    rcases nil_or (down p [] m).2 with h | ⟨b, q, x0, h0, c0, s0, t0, h⟩
    · rw [h]; rfl
    · rw [h, putL_node, if_neg (hne b q x0 h0 c0 s0 t0 h)]
  rw [hL, hgs x true, ← plug_app] at hput
  rw [hgs 0 false, ← plug_app] at hcnt
  have hblk : hb < W.heap.size ∧ Blks tb m hb := by
    have : ∀ (fs : List Fr) (N : MT), plug fs N = m → Blks tb m (hereA tb fs).block := fun fs N e => by
      cases fs with
      | nil => exact .inl rfl
      | cons f fs =>
        refine .inr ?_
        rw [← e, cnt_plug, hereA_cons]
        simp only [cntC, if_pos]; omega
    have h5 := this _ _ hpl
    rw [hh] at h5
    exact ⟨hlow hb h5, h5⟩
  have honly : Only (Blks tb m) W w9 := Only.of (Pfx.Below.tr hbw hb9)
  rw [hgs 0 false]
  exact { ex := ⟨_, c, s, t, b1, b2, hT10, hput, fun k hk => by
            have h5 := hcnt k
            by_cases h6 : 0 < cnt m k
            · exact .inl (.inr h6)
            · refine .inr ?_
              split at h5 <;> split at h5 <;> omega⟩, told := by rw [hno]; rfl, zero := fun _ => rfl, only := honly.set hblk.2 _, box := (set_ne (by omega)).trans ((hb9.block _ hsz).trans hbox), bn := by omega }
end Go.Proofs.Ytpcahgnibdampaa.Tri
