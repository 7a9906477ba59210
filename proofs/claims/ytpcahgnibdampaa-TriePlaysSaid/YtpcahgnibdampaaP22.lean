/- Plain mathematics: what the program's walks through a tree of nodes come to, in the words of the tree that it stands for: what is read. It calls no function of the program. The law's lives, out of what is asked of the tree. -/
import Derived.Test.YtpcahgnibdampaaP11
import Derived.Test.YtpcahgnibdampaaP21
import Derived.Test.YtpcahgnibdampaaP10
import Derived.Test.YtpcahgnibdampaaP14
import Derived.Deep.DrawnRows
import Derived.Deep.Cut
namespace Go.Proofs.Ytpcahgnibdampaa.Tri
open Go.RowKit Mem PR Pfx Oct
theorem good_wf {p : Pf} (h : goodP p = true) : (Lit.int .i64 p.n).wf = true := by
  obtain ⟨h0, h1⟩ := good_len h
  simp [Lit.wf, IntKind.min, IntKind.max, IntKind.signed, IntKind.bits]; omega
theorem nil_or (m : MT) : m = .nil ∨ ∃ b q x h c s t, m = .node b q x h c s t := by
  cases m with
  | nil => exact .inl rfl
  | node b q x h c s t => exact .inr ⟨b, q, x, h, c, s, t, rfl⟩
theorem cov_bad1 {p : Pf} (h : goodP p = false) (q : Pf) : covP q p = false := by
  unfold covP coversB; rw [show goodB p.a p.n = false from h]; rfl
theorem cov_bad2 {p : Pf} (h : goodP p = false) (q : Pf) : covP p q = false := by
  unfold covP coversB hasB; rw [show goodB p.a p.n = false from h]; simp
theorem cov_good1 {p q : Pf} (h : covP q p = true) : goodP p = true := by
  cases hg : goodP p with
  | true => rfl
  | false => rw [cov_bad1 hg] at h; cases h
theorem wi_bad {p : Pf} (h : goodP p = false) (q : Pf) : wiP q p = false := by rw [wi_is, cov_bad1 h]; simp
theorem wi_yes {q p : Pf} (hq : goodP q = true) (h : wiP q p = true) : goodP p = true ∧ p ≠ q ∧ Cov q p ∧ q.n < p.n := by
  rw [wi_is] at h
  simp only [Bool.and_eq_true, Bool.not_eq_true', decide_eq_false_iff_not] at h
  have hp := cov_good1 h.2
  have hc := h.2
  rw [cov_is hq hp] at hc
  have hc := of_decide_eq_true hc
  refine ⟨hp, h.1, hc, ?_⟩
  exact (cov_side hc (fun e => h.1 e.symm) hp).1
theorem wi_no {q p : Pf} (hq : goodP q = true) (hp : goodP p = true) (h : wiP q p = false) : p = q ∨ ¬ Cov q p := by
  rw [wi_is, cov_is hq hp] at h
  by_cases e : p = q
  · exact .inl e
  · rw [decide_eq_false e] at h
    exact .inr (by simpa using h)
theorem sd_bit {q p : Pf} (h : q.n < p.n) (hp : p.n ≤ 32) : sd q p = bitOf q p := by unfold sd; rw [if_neg (by omega)]
theorem wi_sd {q p : Pf} (hq : goodP q = true) (h : wiP q p = true) : sd q p = bitOf q p := by
  obtain ⟨hp, -, -, hl⟩ := wi_yes hq h
  exact sd_bit hl (good_len hp).2
theorem leaf_of {q : Pf} {i : Nat} {t : Tr} (hn : q.n = 32) (hi : In q i t) (hw : WF t) : t = .nil := by
  cases t with
  | nil => rfl
  | node r v a b =>
    have := (good_len hw.1.1).2
    have := hi.1
    omega
theorem tr_nil {m : MT} (h : tr m = .nil) : m = .nil := by
  cases m with
  | nil => rfl
  | node => cases h
theorem sub_stop {q p : Pf} {i : Nat} {m : MT} (hi : In q i (tr m)) (hw : WF (tr m)) (hn : p.n ≤ q.n) (hp : goodP p = true) : ∀ {b : Nat} {r : Pf} {x : Int} {h : Bool} {c : Int} {s t : MT}, m = .node b r x h c s t → covP r p = false := by
  intro b r x h c s t e
  subst e
  rw [cov_is hw.1.1 hp]
  refine decide_eq_false (fun hc => ?_)
  have := hi.1
  have := hc.1
  omega
theorem sub_tr : ∀ (m : MT) (p : Pf), WF (tr m) → goodP p = true → tr (subM m p) = subT (tr m) p
  | .nil, _, _, _ => rfl
  | .node b q x h c s t, p, hw, hp => by
    have hq := hw.1.1
    have e : tr (.node b q x h c s t) = .node q (if h then some x else none) (tr s) (tr t) := rfl
    rw [e]
    unfold subT
    cases hwi : wiP q p with
    | true =>
      obtain ⟨-, hne, hc, hl⟩ := wi_yes hq hwi
      have hb := wi_sd hq hwi
      rw [if_neg (not_cov_of hc (fun e => hne e.symm) hp), if_pos hc]
      rcases sd_two q p with h0 | h0
      · rw [subM_low hwi h0, if_pos (by rw [← hb]; exact h0)]
        exact sub_tr s p hw.2.2.2.2.1 hp
      · rw [subM_high hwi h0, if_neg (by rw [← hb, h0]; decide)]
        exact sub_tr t p hw.2.2.2.2.2 hp
    | false =>
      unfold subM
      rw [hwi, if_neg (by decide), cov_is hp hq]
      by_cases hc : Cov p q
      · rw [if_pos (decide_eq_true hc), if_pos hc]; rfl
      · rw [if_neg (by rw [decide_eq_false hc]; decide), if_neg hc]
        rcases wi_no hq hp hwi with e1 | e1
        · exact absurd (e1 ▸ cov_self hp) hc
        · rw [if_neg e1]; rfl
theorem sub_bad {p : Pf} (h : goodP p = false) : ∀ (m : MT), subM m p = .nil
  | .nil => rfl
  | .node b q x h0 c s t => by
    unfold subM
    rw [wi_bad h, cov_bad2 h, if_neg (by decide), if_neg (by decide)]
theorem sub_mt {W : World} {p : Pf} : ∀ {m : MT}, Mt W m → Mt W (subM m p)
  | .nil, _ => trivial
  | .node b q x h c s t, hm => by
    unfold subM
    split
    · split
      · exact sub_mt hm.2.1
      · exact sub_mt hm.2.2
    · split
      · exact hm
      · trivial
theorem sub_fit {p : Pf} : ∀ {m : MT}, Fit m → Fit (subM m p)
  | .nil, _ => trivial
  | .node b q x h c s t, hm => by
    unfold subM
    split
    · split
      · exact sub_fit hm.2.2.1
      · exact sub_fit hm.2.2.2
    · split
      · exact hm
      · trivial
theorem sub_wfm {p : Pf} : ∀ {m : MT}, WF (tr m) → WF (tr (subM m p))
  | .nil, _ => trivial
  | .node b q x h c s t, hm => by
    unfold subM
    split
    · split
      · exact sub_wfm hm.2.2.2.2.1
      · exact sub_wfm hm.2.2.2.2.2
    · split
      · exact hm
      · trivial
theorem fit_cnt {m : MT} (h : Fit m) : cntV m = ((ents (tr m)).length : Int) := by
  cases m with
  | nil => rfl
  | node b q x h c s t => exact h.1
def told (p : Pf) : MT → Option Int
  | .nil => none
  | .node _ q x h _ _ _ => if q = p then (if h then some x else none) else none
theorem told_node (p : Pf) (b : Nat) (q : Pf) (x : Int) (h : Bool) (c : Int) (s t : MT) : told p (.node b q x h c s t) = if q = p then (if h then some x else none) else none := rfl
theorem get_sub : ∀ (m : MT) (p : Pf), WF (tr m) → goodP p = true → told p (subM m p) = getT (tr m) p
  | .nil, _, _, _ => rfl
  | .node b q x h c s t, p, hw, hp => by
    have hq := hw.1.1
    have e : tr (.node b q x h c s t) = .node q (if h then some x else none) (tr s) (tr t) := rfl
    rw [e]
    unfold getT
    cases hwi : wiP q p with
    | true =>
      obtain ⟨-, hne, hc, hl⟩ := wi_yes hq hwi
      have hb := wi_sd hq hwi
      rw [if_neg hne, if_pos hc]
      rcases sd_two q p with h0 | h0
      · rw [subM_low hwi h0, if_pos (by rw [← hb]; exact h0)]
        exact get_sub s p hw.2.2.2.2.1 hp
      · rw [subM_high hwi h0, if_neg (by rw [← hb, h0]; decide)]
        exact get_sub t p hw.2.2.2.2.2 hp
    | false =>
      unfold subM
      rw [hwi, if_neg (by decide), cov_is hp hq]
      rcases wi_no hq hp hwi with e1 | e1
      · subst e1
        rw [if_pos (decide_eq_true (cov_self hp)), if_pos rfl]
        rw [told_node, if_pos rfl]
      · have hne : ¬ p = q := by intro e2; subst e2; exact e1 (cov_self hp)
        rw [if_neg hne, if_neg e1]
        split
        · rw [told_node, if_neg (fun e2 : q = p => hne e2.symm)]
        · rfl
theorem get_bad {p : Pf} (h : goodP p = false) {t : Tr} (hw : WF t) : getE (ents t) p = none := get_none.2 (fun hk => by
  have := (ents_good t hw p hk).1
  rw [h] at this; cases this)
theorem told_is (m : MT) (p : Pf) (hw : WF (tr m)) : told p (subM m p) = getE (ents (tr m)) p := by
  cases hg : goodP p with
  | true => rw [get_sub m p hw hg, get_ents _ _ hw]
  | false => rw [sub_bad hg, get_bad hg hw]; rfl
def abvM (p : Pf) : MT → List Pf
  | .nil => []
  | .node _ q _ h _ s t => if covP q p then shownP q p h ++ (if sd q p = 0 then abvM p s else abvM p t) else []
theorem abv_kid (p q : Pf) (s t : MT) : (if sd q p = 0 then abvM p s else abvM p t) = abvM p (kidM q p s t) := by
  unfold kidM; split <;> rfl
theorem abv_is : ∀ (m : MT) (p : Pf), WF (tr m) → goodP p = true → abvM p m = aboveT (tr m) p
  | .nil, _, _, _ => rfl
  | .node b q x h c s t, p, hw, hp => by
    have hq := hw.1.1
    have e : tr (.node b q x h c s t) = .node q (if h then some x else none) (tr s) (tr t) := rfl
    rw [e]
    unfold aboveT abvM
    rw [cov_is hq hp]
    by_cases hc : Cov q p
    · rw [if_pos (decide_eq_true hc)]
      by_cases he : q = p
      · subst he
        rw [if_neg (show ¬ (q ≠ q ∧ Cov q q) from fun h => h.1 rfl)]
        have h1 : shownP q q h = [] := by unfold shownP; simp
        have h2 : ∀ (m : MT) (i : Nat), In q i (tr m) → WF (tr m) → abvM q m = [] := fun m i hi hwm => by
          cases m with
          | nil => rfl
          | node b2 r x2 h2 c2 s2 t2 =>
            unfold abvM
            rw [sub_stop hi hwm (Int.le_refl _) hp rfl]
            rfl
        rw [h1, h2 s 0 hw.2.2.1 hw.2.2.2.2.1, h2 t 1 hw.2.2.2.1 hw.2.2.2.2.2]
        simp
      · rw [if_pos (show q ≠ p ∧ Cov q p from ⟨he, hc⟩)]
        have hs := cov_side hc he hp
        have hb := sd_bit hs.1 (good_len hp).2
        rw [hb, abv_is s p hw.2.2.2.2.1 hp, abv_is t p hw.2.2.2.2.2 hp]
        congr 1
        unfold shownP
        rw [decide_eq_true he, Bool.and_true]
        cases h <;> rfl
    · rw [if_neg (by rw [decide_eq_false hc]; decide), if_neg (show ¬ (q ≠ p ∧ Cov q p) from fun h => hc h.2)]
theorem abv_all (m : MT) (p : Pf) (hw : WF (tr m)) : abvM p m = aboveE (ents (tr m)) p := by
  cases hg : goodP p with
  | true => rw [abv_is m p hw hg, above_is _ _ hw hg]
  | false =>
    rw [above_nil (fun e _ _ => cov_bad1 hg e.p)]
    cases m with
    | nil => rfl
    | node b q x h c s t => unfold abvM; rw [cov_bad1 hg]; rfl
def longM (a : Nat) : MT → Option Ent → Option Ent
  | .nil, o => o
  | .node _ q x h _ s t, o => if covP q (addrP a) then (if sd q (addrP a) = 0 then longM a s (pickE q (if h then some x else none) o) else longM a t (pickE q (if h then some x else none) o)) else o
theorem long_kid (a : Nat) (q : Pf) (s t : MT) (o : Option Ent) : (if sd q (addrP a) = 0 then longM a s o else longM a t o) = longM a (kidM q (addrP a) s t) o := by
  unfold kidM; split <;> rfl
theorem long_eq : ∀ (m : MT) (a : Nat) (o : Option Ent), WF (tr m) → longM a m o = longT (tr m) a o
  | .nil, _, _, _ => rfl
  | .node b q x h c s t, a, o, hw => by
    have hq := hw.1.1
    have e : tr (.node b q x h c s t) = .node q (if h then some x else none) (tr s) (tr t) := rfl
    rw [e]
    unfold longT longM
    rw [cov_is hq (good_addr a)]
    by_cases hc : Cov q (addrP a)
    · rw [if_pos (decide_eq_true hc), if_pos hc]
      by_cases hn : q.n = 32
      · have h1 := leaf_of hn hw.2.2.1 hw.2.2.2.2.1
        have h2 := leaf_of hn hw.2.2.2.1 hw.2.2.2.2.2
        rw [h1, h2, tr_nil h1, tr_nil h2]
        unfold longM longT
        simp
      · have hb : sd q (addrP a) = bitOf q (addrP a) := by unfold sd; rw [if_neg hn]
        rw [hb, long_eq s a _ hw.2.2.2.2.1, long_eq t a _ hw.2.2.2.2.2]
    · rw [if_neg (by rw [decide_eq_false hc]; decide), if_neg hc]
theorem long_all (m : MT) (a : Nat) (hw : WF (tr m)) : longM a m none = longE a none (ents (tr m)) := by
  rw [long_eq m a none hw, long_is _ _ _ hw (fun e h => by cases h)]
def heldM : MT → List Pf
  | .nil => []
  | .node _ q _ h _ s t => (if h then [q] else []) ++ (heldM s ++ heldM t)
theorem held_is : ∀ (m : MT), heldM m = keys (ents (tr m))
  | .nil => rfl
  | .node b q x h c s t => by
    show (if h then [q] else []) ++ (heldM s ++ heldM t) = keys (topE q (if h then some x else none) ++ (ents (tr s) ++ ents (tr t)))
    unfold keys
    rw [List.map_append, List.map_append]
    rw [held_is s, held_is t]
    cases h <;> rfl
def belM (p : Pf) : MT → List Pf
  | .nil => []
  | .node _ q _ h _ s t => shownP q p h ++ (belM p s ++ belM p t)
theorem bel_is (p : Pf) : ∀ (m : MT), belM p m = (keys (ents (tr m))).filter (fun q => decide (q ≠ p))
  | .nil => rfl
  | .node b q x h c s t => by
    show shownP q p h ++ (belM p s ++ belM p t) = (keys (topE q (if h then some x else none) ++ (ents (tr s) ++ ents (tr t)))).filter _
    unfold keys
    rw [List.map_append, List.map_append, List.filter_append, List.filter_append, bel_is p s, bel_is p t]
    congr 1
    unfold shownP
    cases h with
    | false => rfl
    | true =>
      simp only [Bool.true_and, topE, if_true, List.map_cons, List.map_nil, List.filter_cons, List.filter_nil]
theorem below_of (l : List Ent) (p : Pf) : (keys (l.filter (fun e => covP p e.p))).filter (fun q => decide (q ≠ p)) = belowE l p := by
  unfold keys belowE
  induction l with
  | nil => rfl
  | cons e l ih =>
    simp only [List.filter_cons]
    cases h : covP p e.p with
    | false => rw [if_neg (by decide), if_neg (by simp)]; exact ih
    | true =>
      rw [if_pos rfl, List.map_cons, List.filter_cons, ih]
      by_cases he : e.p = p
      · simp [he]
      · simp [he]
theorem bel_all (m : MT) (p : Pf) (hw : WF (tr m)) : belM p (subM m p) = belowE (ents (tr m)) p := by
  cases hg : goodP p with
  | true => rw [bel_is, sub_tr m p hw hg, sub_ents _ _ hw hg, below_of]
  | false =>
    rw [sub_bad hg]
    unfold belowE
    rw [List.filter_eq_nil_iff.2 (fun e _ => by rw [cov_bad2 hg]; simp)]
    rfl
theorem count_of : ∀ (l : List Ent) (p : Pf), Ord l → goodP p = true → (l.filter (fun e => covP p e.p)).length = (belowE l p).length + (if hasE l p then 1 else 0)
  | [], _, _, _ => rfl
  | e :: l, p, ho, hp => by
    unfold Ord at ho
    rw [List.pairwise_cons] at ho
    have ih := count_of l p ho.2 hp
    by_cases he : e.p = p
    · have hn : p ∉ keys l := fun hk => by
        obtain ⟨z, hz, e2⟩ := List.mem_map.1 hk
        have := ho.1 z hz
        rw [he, e2] at this
        exact lt_irrefl p this
      have h1 : hasE l p = false := by unfold hasE; rw [get_none.2 hn]; rfl
      have h2 : hasE (e :: l) p = true := by unfold hasE getE; simp [he]
      have h3 : covP p e.p = true := by rw [he, cov_is hp hp]; exact decide_eq_true (cov_self hp)
      have h4 : belowE (e :: l) p = belowE l p := by unfold belowE; simp [he]
      rw [h1] at ih
      rw [h2, h4, List.filter_cons, h3, if_pos rfl, List.length_cons, ih]
      simp
    · have h2 : hasE (e :: l) p = hasE l p := by unfold hasE getE; simp [he]
      rw [h2, List.filter_cons]
      have h4 : belowE (e :: l) p = if covP p e.p then e.p :: belowE l p else belowE l p := by
        unfold belowE
        rw [List.filter_cons]
        cases h : covP p e.p <;> simp [he]
      rw [h4]
      split
      · rw [List.length_cons, List.length_cons, ih]; omega
      · exact ih
theorem count_all (m : MT) (p : Pf) (hw : WF (tr m)) (hf : Fit m) : cntV (subM m p) = (((belowE (ents (tr m)) p).length + (if hasE (ents (tr m)) p then 1 else 0) : Nat) : Int) := by
  rw [fit_cnt (sub_fit hf)]
  congr 1
  cases hg : goodP p with
  | true => rw [sub_tr m p hw hg, sub_ents _ _ hw hg, count_of _ _ (ents_ord _ hw) hg]
  | false =>
    rw [sub_bad hg]
    have h1 : belowE (ents (tr m)) p = [] := by
      unfold belowE
      rw [List.filter_eq_nil_iff.2 (fun e _ => by rw [cov_bad2 hg]; simp)]
      rfl
    have h2 : hasE (ents (tr m)) p = false := by unfold hasE; rw [get_bad hg hw]; rfl
    rw [h1, h2]; rfl
theorem msize_tr : ∀ (m : MT), msize m = size (tr m)
  | .nil => rfl
  | .node b q x h c s t => by
    show 1 + msize s + msize t = 1 + size (tr s) + size (tr t)
    rw [msize_tr s, msize_tr t]
end Go.Proofs.Ytpcahgnibdampaa.Tri
namespace Go.Proofs.Ytpcahgnibdampaa.Tri
open Go.RowKit Mem PR Pfx Oct
def pA : Pf := ⟨167772160, 8⟩
def pB : Pf := ⟨167837696, 16⟩
theorem lv1 : (if goodP pA then putE [] pA 1 else []) = [⟨pA, 1⟩] := by rfl
theorem lv2 : (if goodP pB then putE [⟨pA, 1⟩] pB 2 else [⟨pA, 1⟩]) = [⟨pA, 1⟩, ⟨pB, 2⟩] := by rfl
theorem lv3 : aboveE [⟨pA, 1⟩, ⟨pB, 2⟩] pB = [pA] := by rfl
theorem lv4 : valE [⟨pA, 1⟩, ⟨pB, 2⟩] pB = 2 := by rfl
theorem lv5 : hasE [⟨pA, 1⟩, ⟨pB, 2⟩] pB = true := by rfl
theorem okA : pA.ok := ⟨by decide, by decide⟩
theorem okB : pB.ok := ⟨by decide, by decide⟩
def TreeG (T : Tree) (base : Nat) (v : Value) (l : List Ent) (G : Nat → Prop) (w : World) : Prop := ∃ t F, T w base v t F ∧ ents t = l ∧ ∀ k, F k → G k
theorem TreeG.keep {T : Tree} (FT : FaceT T) {base : Nat} {v : Value} {l : List Ent} {G : Nat → Prop} {w w' : World} (h : TreeG T base v l G w) (hb : Below w.heap.size w w') : TreeG T base v l G w' := by
  obtain ⟨t, F, h1, h2, h3⟩ := h
  exact ⟨t, F, FT.keep h1 (fun k hk => hb.block k (FT.low h1 k hk).2) hb.size, h2, h3⟩
theorem tree_put {T : Tree} (FT : FaceT T) {w : World} {base n : Nat} {v : Value} {l : List Ent} {G : Nat → Prop} (p : Pf) (x : Int) (h : TreeG T base v l G w) (hG : ∀ k, n ≤ k → G k) (hn : n ≤ w.heap.size) (hbase : base ≤ w.heap.size) (hp : p.ok) (hx : (Lit.int .i64 x).wf = true) (hl : l.length ≤ 900) :
    Calls Try.prog 24 #[v, pV p, .int .i64 x] w fun e w' => e = .returned (.tuple #[.int .i64 (valE l p), .bool (hasE l p)]) ∧ TreeG T base v (if goodP p then putE l p x else l) G w' ∧ Only G w w' := by
  obtain ⟨t, F, h1, h2, h3⟩ := h
  refine (FT.put p x h1 hp hx hbase (by rw [h2]; omega)).mono ?_
  rintro e w' ⟨t2, F2, rfl, q1, q2, q3, q4⟩
  rw [h2] at q2 ⊢
  exact ⟨rfl, ⟨t2, F2, q1, q2, fun k hk => (q4 k hk).elim (h3 k) (fun hk => hG k (Nat.le_trans hn hk))⟩, q3.more h3⟩
set_option maxRecDepth 100000 in
set_option maxHeartbeats 16000000 in
theorem lives_of {T : Tree} (FT : FaceT T) (w : World) : Calls Try.prog 21 #[] w (Tells (.bool true) w) := by
  have CN := Go.Lib.hid (FT.new w)
  have hgen : ∀ (w1 : World) (b : Nat) (F : Nat → Prop), T w1 w.heap.size (.pointer (some ⟨b, 0, none⟩)) .nil F → Below w.heap.size w w1 → ∀ W2, W2 = (w1.alloc (.cells #[.int .u32 (167772160 : Int), .int .i64 8] 25)).alloc (.cells #[.int .u32 (167837696 : Int), .int .i64 16] 25) →
      ∃ G : Nat → Prop, TreeG T w.heap.size (.pointer (some ⟨b, 0, none⟩)) [] G W2 ∧ (∀ k, W2.heap.size ≤ k → G k) ∧ (∀ k, G k → w.heap.size ≤ k) ∧ Below w.heap.size w W2 ∧
        ∀ W, Only G W2 W → W.cell? ⟨w1.heap.size, 0, none⟩ = some (.int .u32 (167772160 : Int)) ∧ W.cell? ⟨w1.heap.size, 1, none⟩ = some (.int .i64 8) ∧ W.cell? ⟨w1.heap.size + 1, 0, none⟩ = some (.int .u32 (167837696 : Int)) ∧ W.cell? ⟨w1.heap.size + 1, 1, none⟩ = some (.int .i64 16) := by
    intro w1 b F hT hb W2 hW2
    have hb2 : Below w1.heap.size w1 W2 := by rw [hW2]; exact ((Below.refl _ w1).alloc (Nat.le_refl _) _).alloc (by simp) _
    have hsz : W2.heap.size = w1.heap.size + 2 := by rw [hW2]; simp
    have e0 : W2.cell? ⟨w1.heap.size, 0, none⟩ = some (.int .u32 (167772160 : Int)) := by rw [hW2]; simp [go_sem]
    have e1 : W2.cell? ⟨w1.heap.size, 1, none⟩ = some (.int .i64 8) := by rw [hW2]; simp [go_sem]
    have e2 : W2.cell? ⟨w1.heap.size + 1, 0, none⟩ = some (.int .u32 (167837696 : Int)) := by rw [hW2]; simp [go_sem]
    have e3 : W2.cell? ⟨w1.heap.size + 1, 1, none⟩ = some (.int .i64 16) := by rw [hW2]; simp [go_sem]
    have hlow := FT.low hT
    have hn : ∀ i, w1.heap.size ≤ i → i < w1.heap.size + 2 → ¬ (F i ∨ W2.heap.size ≤ i) := fun i h0 h1 h => h.elim (fun hf => by have := (hlow i hf).2; omega) (fun hk => by omega)
    exact ⟨fun k => F k ∨ W2.heap.size ≤ k, ⟨.nil, F, FT.keep hT (fun k hk => hb2.block k (hlow k hk).2) hb2.size, rfl, fun k hk => .inl hk⟩, fun k hk => .inr hk,
      fun k hk => hk.elim (fun hf => (hlow k hf).1) (fun h => by have := hb.size; omega), hb.trans (hb2.mono hb.size),
      fun W h => ⟨only_cell h (by omega) (hn _ (by omega) (by omega)) e0, only_cell h (by omega) (hn _ (by omega) (by omega)) e1, only_cell h (by omega) (hn _ (by omega) (by omega)) e2, only_cell h (by omega) (hn _ (by omega) (by omega)) e3⟩⟩
  have HG := Go.Lib.hid hgen
  clear hgen
  go_enter Try.func21, Try.ntmps21
  go_upto_region 3 with (go_at_call 7; refine (CN.out).mono ?_; rintro e w1 ⟨b, F, rfl, hT, hb⟩; have HT := Go.Lib.hid hT; have HB := Go.Lib.hid hb; clear hT hb)
  obtain ⟨W2, hW2⟩ : ∃ W2, W2 = (w1.alloc (.cells #[.int .u32 (167772160 : Int), .int .i64 8] 25)).alloc (.cells #[.int .u32 (167837696 : Int), .int .i64 16] 25) := ⟨_, rfl⟩
  rw [← hW2]
  obtain ⟨G, hP, hG1, hG2, hB2, hK⟩ := HG.out w1 b F HT.out HB.out W2 hW2
  have P0 := Go.Lib.hid hP
  have G1 := Go.Lib.hid hG1
  have G2 := Go.Lib.hid hG2
  have B2 := Go.Lib.hid hB2
  have HK := Go.Lib.hid hK
  obtain ⟨c0, c1, c2, c3⟩ := HK.out _ (Only.refl G W2)
  generalize Value.pointer (some ⟨b, 0, none⟩) = tv at *
  generalize w1.heap.size = q at *
  clear hW2 hP hG1 hG2 hB2 hK HG HT HB CN
  have CP1 := Go.Lib.hid (tree_put FT pA 1 P0.out G1.out (Nat.le_refl _) B2.out.size okA (by decide) (by decide))
  rw [lv1] at CP1
  unfold pV pA at CP1
  dsimp only at CP1
  go_upto_region 4 with (go_at_call 24; refine (CP1.out).mono ?_; rintro e w3 ⟨rfl, hp3, ho3⟩; have P3 := Go.Lib.hid hp3; have O3 := Go.Lib.hid ho3; obtain ⟨c0, c1, c2, c3⟩ := HK.out _ ho3; clear hp3 ho3)
  clear CP1
  have CP2 := Go.Lib.hid (tree_put FT pB 2 P3.out G1.out O3.out.size (Nat.le_trans B2.out.size O3.out.size) okB (by decide) (by decide))
  have e2 : (if goodP pB then putE [⟨⟨167772160, 8⟩, 1⟩] pB 2 else [⟨⟨167772160, 8⟩, 1⟩]) = [⟨pA, 1⟩, ⟨pB, 2⟩] := lv2
  rw [e2] at CP2
  unfold pV at CP2
  have e3 : pB.a = 167837696 := rfl
  have e4 : pB.n = 16 := rfl
  rw [e3, e4] at CP2
  clear e2 e3 e4
  go_upto_region 5 with (go_at_call 24; refine (CP2.out).mono ?_; rintro e w4 ⟨rfl, hp4, ho4⟩; have P4 := Go.Lib.hid hp4; have O4 := Go.Lib.hid (O3.out.trans ho4); obtain ⟨c0, c1, c2, c3⟩ := HK.out _ O4.out; clear hp4 ho4)
  clear CP2 P3
  obtain ⟨t, F4, hT4, hE4, -⟩ := P4.out
  have CA := Go.Lib.hid (fun (W : World) (h : Below w4.heap.size w4 W) => FT.above pB (FT.keep hT4 (fun k hk => h.block k (FT.low hT4 k hk).2) h.size) okB (by rw [hE4]; decide))
  have CG := Go.Lib.hid (fun (W : World) (h : Below w4.heap.size w4 W) => FT.get pB (FT.keep hT4 (fun k hk => h.block k (FT.low hT4 k hk).2) h.size) okB)
  have CK := Go.Lib.hid (fun (W : World) (h : Below w4.heap.size w4 W) => FT.check (FT.keep hT4 (fun k hk => h.block k (FT.low hT4 k hk).2) h.size) (by rw [hE4]; decide))
  rw [hE4, lv3] at CA
  rw [hE4, lv4, lv5] at CG
  unfold pV at CA CG
  have e3 : pB.a = 167837696 := rfl
  have e4 : pB.n = 16 := rfl
  rw [e3, e4] at CA CG
  clear e3 e4 hT4 hE4
  go_upto_region 7 with (first
    | (go_at_call 15; refine (CA.out _ (Below.refl _ _)).mono ?_; rintro e w5 ⟨Al, cl, rfl, ho5, hb5⟩; have HO5 := Go.Lib.hid (Pfxs.of_own (l := [pA]) ho5 (fun p hp => by rw [List.mem_singleton.1 hp]; exact okA)); have B5 := Go.Lib.hid hb5; obtain ⟨c0, c1, c2, c3⟩ := HK.out _ (O4.out.trans (Only.of hb5)); clear ho5 hb5)
    | (go_at_call 11; refine (CG.out _ B5.out).mono ?_; rintro e w6 ⟨rfl, hb6⟩; have HO6 := Go.Lib.hid (HO5.out.keep hb6); have B6 := Go.Lib.hid (B5.out.trans (hb6.mono B5.out.size)); obtain ⟨c0, c1, c2, c3⟩ := HK.out _ (O4.out.trans (Only.of B6.out)); clear hb6))
  obtain ⟨bl, off, rfl, hbl, k0, k1⟩ := HO6.out.at_ (i := 0) (p := pA) rfl
  simp only [Nat.zero_mul, Nat.add_zero] at k0 k1
  have e5 : (pA.a : Int) = 167772160 := rfl
  have e6 : pA.n = 8 := rfl
  rw [e5] at k0
  rw [e6] at k1
  have HS := Go.Lib.hid (fun (W : World) (h : Below w6.heap.size w6 W) => (⟨(h.cell (p := ⟨bl, off, none⟩) hbl).trans k0, (h.cell (p := ⟨bl, off + 1, none⟩) hbl).trans k1, (HK.out W (O4.out.trans (Only.of (B6.out.trans (h.mono B6.out.size))))).1, (HK.out W (O4.out.trans (Only.of (B6.out.trans (h.mono B6.out.size))))).2.1⟩ :
    W.cell? ⟨bl, off, none⟩ = some (.int .u32 (167772160 : Int)) ∧ W.cell? ⟨bl, off + 1, none⟩ = some (.int .i64 8) ∧ W.cell? ⟨q, 0, none⟩ = some (.int .u32 (167772160 : Int)) ∧ W.cell? ⟨q, 1, none⟩ = some (.int .i64 8)))
  have hS0 := HS.out _ (Below.refl w6.heap.size w6).drew
  clear c0 c1 c2 c3 k0 k1 hbl
  go_wp2
  go_region_held3 (fun w' => w'.cell? ⟨bl, off, none⟩ = some (.int .u32 (167772160 : Int)) ∧ w'.cell? ⟨bl, off + 1, none⟩ = some (.int .i64 8) ∧ w'.cell? ⟨q, 0, none⟩ = some (.int .u32 (167772160 : Int)) ∧ w'.cell? ⟨q, 1, none⟩ = some (.int .i64 8)) (assumption) (first
    | (go_at_call 22; refine (CK.out _ (B6.out.trans ((Below.refl w6.heap.size w6).drew.mono B6.out.size))).mono ?_; rintro e w7 ⟨rfl, hb7⟩; have hb8 := ((Below.refl w6.heap.size w6).drew).trans (hb7.mono ((Below.refl w6.heap.size w6).drew).size); have H8 := Go.Lib.hid hb8; have hS1 := HS.out _ hb8; clear hb7 hb8 hS0))
  all_goals go_wp2
  all_goals go_ret
  all_goals exact ⟨rfl, B2.out.trans (((O4.out.trans (Only.of (B6.out.trans (H8.out.mono B6.out.size)))).below G2.out B2.out.size))⟩
end Go.Proofs.Ytpcahgnibdampaa.Tri
