/- Plain mathematics: what the program's Cut does to a tree of nodes; and a tidying at a place. -/
import Derived.Test.YtpcahgnibdampaaP26
namespace Go.Proofs.Ytpcahgnibdampaa.Tri
open Go.RowKit Mem PR Pfx Oct
theorem tidy_three (b : Nat) (q : Pf) (x : Int) (h : Bool) (c : Int) (s t : MT) : (tidyM (.node b q x h c s t) = .node b q x h c s t ∧ (h = true ∨ (s ≠ .nil ∧ t ≠ .nil))) ∨ (tidyM (.node b q x h c s t) = t ∧ h = false ∧ s = .nil) ∨ (tidyM (.node b q x h c s t) = s ∧ h = false ∧ t = .nil) := by
  cases h with
  | true => exact .inl ⟨rfl, .inl rfl⟩
  | false =>
    rcases nil_or s with rfl | ⟨b2, q2, x2, h2, c2, s2, t2, rfl⟩
    · exact .inr (.inl ⟨rfl, rfl, rfl⟩)
    · rcases nil_or t with rfl | ⟨b3, q3, x3, h3, c3, s3, t3, rfl⟩
      · exact .inr (.inr ⟨rfl, rfl, rfl⟩)
      · exact .inl ⟨rfl, .inr ⟨(fun e => by cases e), (fun e => by cases e)⟩⟩
theorem tidy_id {b : Nat} {q : Pf} {x : Int} {h : Bool} {c : Int} {s t : MT} (hh : h = true ∨ (s ≠ .nil ∧ t ≠ .nil)) : tidyM (.node b q x h c s t) = .node b q x h c s t := by
  rcases tidy_three b q x h c s t with h1 | ⟨-, h2, h3⟩ | ⟨-, h2, h3⟩
  · exact h1.1
  · rcases hh with hh | hh
    · rw [h2] at hh; cases hh
    · exact absurd h3 hh.1
  · rcases hh with hh | hh
    · rw [h2] at hh; cases hh
    · exact absurd h3 hh.2
theorem tr_tidy (b : Nat) (q : Pf) (x : Int) (h : Bool) (c : Int) (s t : MT) : tr (tidyM (.node b q x h c s t)) = mkT q (if h then some x else none) (tr s) (tr t) := by
  cases h with
  | true => rfl
  | false =>
    rcases nil_or s with rfl | ⟨b2, q2, x2, h2, c2, s2, t2, rfl⟩
    · rfl
    · rcases nil_or t with rfl | ⟨b3, q3, x3, h3, c3, s3, t3, rfl⟩ <;> rfl
theorem ents_mkT (q : Pf) (x : Option Int) (a b : Tr) : ents (mkT q x a b) = topE q x ++ (ents a ++ ents b) := by
  match x, a, b with
  | some y, a, b => rfl
  | none, .nil, b => rfl
  | none, .node p y c d, .nil => show ents (.node p y c d) = [] ++ (ents (.node p y c d) ++ []); simp
  | none, .node p y c d, .node p2 y2 c2 d2 => rfl
theorem fit_tidy {b : Nat} {q : Pf} {x : Int} {h : Bool} {c : Int} {s t : MT} (hf : Fit (.node b q x h c s t)) : Fit (tidyM (.node b q x h c s t)) := by
  rcases tidy_three b q x h c s t with h1 | h1 | h1 <;> rw [h1.1]
  · exact hf
  · exact hf.2.2.2
  · exact hf.2.2.1
theorem mt_tidy {W : World} {b : Nat} {q : Pf} {x : Int} {h : Bool} {c : Int} {s t : MT} (hf : Mt W (.node b q x h c s t)) : Mt W (tidyM (.node b q x h c s t)) := by
  rcases tidy_three b q x h c s t with h1 | h1 | h1 <;> rw [h1.1]
  · exact hf
  · exact hf.2.2
  · exact hf.2.1
theorem cnt_tidy (b : Nat) (q : Pf) (x : Int) (h : Bool) (c : Int) (s t : MT) (a : Nat) : cnt (tidyM (.node b q x h c s t)) a ≤ cnt (.node b q x h c s t) a := by
  rcases tidy_three b q x h c s t with h1 | h1 | h1 <;> rw [h1.1] <;> simp only [cnt] <;> omega
def dropM : MT → MT
  | .nil => .nil
  | .node b q _ _ c s t => .node b q 0 false c s t
def upT : List Fr → MT → MT
  | [], m => m
  | f :: fs, m => plug fs (tidyM (f.put m))
def cutM (p : Pf) : MT → MT
  | .nil => .nil
  | .node b q x h c s t => if wiP q p then (if sd q p = 0 then tidyM (.node b q x h c (cutM p s) t) else tidyM (.node b q x h c s (cutM p t))) else tidyM (.node b q 0 false c s t)
theorem cut_node (p : Pf) (b : Nat) (q : Pf) (x : Int) (h : Bool) (c : Int) (s t : MT) : cutM p (.node b q x h c s t) = if wiP q p then (if sd q p = 0 then tidyM (.node b q x h c (cutM p s) t) else tidyM (.node b q x h c s (cutM p t))) else tidyM (.node b q 0 false c s t) := rfl
def wiM (p : Pf) : MT → Bool
  | .nil => false
  | .node _ q _ _ _ _ _ => wiP q p
theorem nn_tr {m : MT} (h : tr m ≠ .nil) : m ≠ .nil := fun e => h (by rw [e]; rfl)
theorem wf_two {b : Nat} {q : Pf} {x : Int} {h : Bool} {c : Int} {s t : MT} (hw : WF (tr (.node b q x h c s t))) : h = true ∨ (s ≠ .nil ∧ t ≠ .nil) := by
  cases h with
  | true => exact .inl rfl
  | false =>
    obtain ⟨h1, h2⟩ := hw.2.1.resolve_left (by simp)
    exact .inr ⟨nn_tr h1, nn_tr h2⟩
theorem cut_nn {p : Pf} {m : MT} (hw : WF (tr m)) (hwi : wiM p m = true) : cutM p m ≠ .nil := by
  cases m with
  | nil => cases hwi
  | node b q x h c s t =>
    have hwi : wiP q p = true := hwi
    rw [cut_node, if_pos hwi]
    have h2 := wf_two hw
    split
    · rcases tidy_three b q x h c (cutM p s) t with h1 | ⟨h1, h3, -⟩ | ⟨-, h3, h4⟩
      · rw [h1.1]; intro e; cases e
      · rw [h1]
        rcases h2 with h2 | h2
        · rw [h3] at h2; cases h2
        · exact h2.2
      · rcases h2 with h2 | h2
        · rw [h3] at h2; cases h2
        · exact absurd h4 h2.2
    · rcases tidy_three b q x h c s (cutM p t) with h1 | ⟨-, h3, h4⟩ | ⟨h1, h3, -⟩
      · rw [h1.1]; intro e; cases e
      · rcases h2 with h2 | h2
        · rw [h3] at h2; cases h2
        · exact absurd h4 h2.1
      · rw [h1]
        rcases h2 with h2 | h2
        · rw [h3] at h2; cases h2
        · exact h2.1
theorem up_cut (p : Pf) : ∀ (m : MT) (fs : List Fr), WF (tr m) → m ≠ .nil → (getT (tr m) p).isSome = true →
    upT (down p fs m).1 (tidyM (dropM (down p fs m).2)) = if wiM p m then plug fs (cutM p m) else upT fs (cutM p m)
  | .nil, _, _, h, _ => absurd rfl h
  | .node b q x h c s t, fs, hw, _, hg => by
    have hq := hw.1.1
    have e : tr (.node b q x h c s t) = .node q (if h then some x else none) (tr s) (tr t) := rfl
    rw [cut_node]
    show _ = if wiP q p then _ else _
    cases hwi : wiP q p with
    | false => rw [down_stop hwi]; rfl
    | true =>
      obtain ⟨-, hne, hc, hl⟩ := wi_yes hq hwi
      have hb := wi_sd hq hwi
      rw [e] at hg
      unfold getT at hg
      rw [if_neg hne, if_pos hc, ← hb] at hg
      have h2 := wf_two hw
      rw [if_pos rfl, if_pos rfl]
      rcases sd_two q p with h0 | h0
      · rw [if_pos h0] at hg ⊢
        have hs : s ≠ .nil := fun e => by rw [e] at hg; cases hg
        rw [down_low hwi h0, up_cut p s _ hw.2.2.2.2.1 hs hg]
        split
        · rename_i hws
          have hn := cut_nn hw.2.2.2.2.1 hws
          rw [tidy_id (h2.imp_right (fun h3 => ⟨hn, h3.2⟩))]; rfl
        · rfl
      · rw [if_neg (by rw [h0]; decide)] at hg ⊢
        have ht : t ≠ .nil := fun e => by rw [e] at hg; cases hg
        rw [down_high hwi h0, up_cut p t _ hw.2.2.2.2.2 ht hg]
        split
        · rename_i hws
          have hn := cut_nn hw.2.2.2.2.2 hws
          rw [tidy_id (h2.imp_right (fun h3 => ⟨h3.1, hn⟩))]; rfl
        · rfl
theorem tr_cut (p : Pf) (hp : goodP p = true) : ∀ (m : MT), WF (tr m) → (getT (tr m) p).isSome = true → tr (cutM p m) = cutT (tr m) p
  | .nil, _, h => by cases h
  | .node b q x h c s t, hw, hg => by
    have hq := hw.1.1
    have e : tr (.node b q x h c s t) = .node q (if h then some x else none) (tr s) (tr t) := rfl
    rw [cut_node]
    rw [e] at hg ⊢
    unfold getT at hg
    unfold cutT
    cases hwi : wiP q p with
    | true =>
      obtain ⟨-, hne, hc, hl⟩ := wi_yes hq hwi
      have hb := wi_sd hq hwi
      rw [if_neg hne, if_pos hc] at hg ⊢
      rw [if_pos rfl, hb]
      split
      · rename_i h1
        rw [if_pos h1] at hg
        rw [tr_tidy, tr_cut p hp s hw.2.2.2.2.1 hg]
      · rename_i h1
        rw [if_neg h1] at hg
        rw [tr_tidy, tr_cut p hp t hw.2.2.2.2.2 hg]
    | false =>
      rw [if_neg (by decide), tr_tidy]
      rcases wi_no hq hp hwi with he | he
      · rw [if_pos he]; rfl
      · by_cases he2 : p = q
        · rw [if_pos he2]; rfl
        · rw [if_neg he2, if_neg he] at hg; cases hg
theorem cutT_node (q : Pf) (x : Option Int) (a b : Tr) (p : Pf) : cutT (.node q x a b) p = if p = q then mkT q none a b else if Cov q p then (if bitOf q p = 0 then mkT q x (cutT a p) b else mkT q x a (cutT b p)) else .node q x a b := rfl
theorem len_cut (t : Tr) (p : Pf) (hw : WF t) (hg : (getT t p).isSome = true) : (ents (cutT t p)).length + 1 = (ents t).length := by
  rw [ents_cut t p hw]
  rw [get_ents t p hw] at hg
  generalize ents t = l at *
  induction l with
  | nil => cases hg
  | cons e l ih =>
    unfold cutE
    by_cases he : e.p = p
    · rw [if_pos he]; rfl
    · rw [if_neg he]
      have h2 : getE (e :: l) p = getE l p := by unfold getE; simp [he]
      rw [h2] at hg
      rw [List.length_cons, List.length_cons, ih hg]
theorem fit_cut (p : Pf) (hp : goodP p = true) : ∀ (m : MT), Fit m → WF (tr m) → (getT (tr m) p).isSome = true → Fit (cutM p (incM (-1) p m))
  | .nil, _, _, h => by cases h
  | .node b q x h c s t, hf, hw, hg => by
    have hq := hw.1.1
    have hlen := len_cut (tr (.node b q x h c s t)) p hw hg
    have e : tr (.node b q x h c s t) = .node q (if h then some x else none) (tr s) (tr t) := rfl
    have hfc := hf.1
    have hg0 := hg
    rw [e] at hg
    unfold getT at hg
    cases hwi : wiP q p with
    | true =>
      obtain ⟨-, hne, hc, hl⟩ := wi_yes hq hwi
      have hb := wi_sd hq hwi
      rw [if_neg hne, if_pos hc, ← hb] at hg
      have hlc : (ents (tr (.node b q x h c s t))).length = (ents (cutT (tr (.node b q x h c s t)) p)).length + 1 := hlen.symm
      rw [inc_node, cov_is hq hp, if_pos (decide_eq_true hc)]
      have hct : cutT (tr (.node b q x h c s t)) p = if sd q p = 0 then mkT q (if h then some x else none) (cutT (tr s) p) (tr t) else mkT q (if h then some x else none) (tr s) (cutT (tr t) p) := by
        rw [e, cutT_node, if_neg hne, if_pos hc, hb]
      rw [hct] at hlc
      rcases sd_two q p with h0 | h0
      · rw [if_pos h0] at hg hlc ⊢
        rw [ents_mkT] at hlc
        rw [cut_node, if_pos hwi, if_pos h0]
        refine fit_tidy (fit_node ?_ hf.2.1 (fit_cut p hp s hf.2.2.1 hw.2.2.2.2.1 hg) hf.2.2.2)
        have hwi2 : WF (tr (incM (-1) p s)) := by rw [tr_inc]; exact hw.2.2.2.2.1
        have h3 : tr (MT.node b q x h (c + -1) (cutM p (incM (-1) p s)) t) = .node q (if h then some x else none) (cutT (tr s) p) (tr t) := by
          show Tr.node q _ (tr (cutM p (incM (-1) p s))) (tr t) = _
          rw [tr_cut p hp (incM (-1) p s) hwi2 (by rw [tr_inc]; exact hg), tr_inc]
        rw [h3]
        show c + -1 = ((topE q (if h then some x else none) ++ (ents (cutT (tr s) p) ++ ents (tr t))).length : Int)
        omega
      · rw [if_neg (by rw [h0]; decide)] at hg hlc ⊢
        rw [ents_mkT] at hlc
        rw [cut_node, if_pos hwi, if_neg (by rw [h0]; decide)]
        refine fit_tidy (fit_node ?_ hf.2.1 hf.2.2.1 (fit_cut p hp t hf.2.2.2 hw.2.2.2.2.2 hg))
        have hwi2 : WF (tr (incM (-1) p t)) := by rw [tr_inc]; exact hw.2.2.2.2.2
        have h3 : tr (MT.node b q x h (c + -1) s (cutM p (incM (-1) p t))) = .node q (if h then some x else none) (tr s) (cutT (tr t) p) := by
          show Tr.node q _ (tr s) (tr (cutM p (incM (-1) p t))) = _
          rw [tr_cut p hp (incM (-1) p t) hwi2 (by rw [tr_inc]; exact hg), tr_inc]
        rw [h3]
        show c + -1 = ((topE q (if h then some x else none) ++ (ents (tr s) ++ ents (cutT (tr t) p))).length : Int)
        omega
    | false =>
      have he : p = q := by
        rcases wi_no hq hp hwi with he | he
        · exact he
        · by_cases he2 : p = q
          · exact he2
          · rw [if_neg he2, if_neg he] at hg; cases hg
      subst he
      have hct : cutT (tr (.node b p x h c s t)) p = mkT p none (tr s) (tr t) := by
        rw [e, cutT_node, if_pos rfl]
      rw [hct, ents_mkT] at hlen
      rw [inc_node, cov_is hp hp, if_pos (decide_eq_true (cov_self hp)), inc_stop hw.2.2.1 hw.2.2.2.2.1 (Int.le_refl _) hp, inc_stop hw.2.2.2.1 hw.2.2.2.2.2 (Int.le_refl _) hp]
      have h3 : Fit (cutM p (.node b p x h (c + -1) s t)) := by
        rw [cut_node, hwi, if_neg (by decide)]
        refine fit_tidy (fit_node ?_ (fun _ => rfl) hf.2.2.1 hf.2.2.2)
        show c + -1 = ((topE p none ++ (ents (tr s) ++ ents (tr t))).length : Int)
        omega
      split <;> exact h3
theorem tidy_place {w : World} {tb : Nat} {fs : List Fr} {b : Nat} {q : Pf} {x : Int} {h : Bool} {c : Int} {s t : MT} (hT : TreeM w tb (plug fs (.node b q x h c s t))) :
    Calls Try.prog 48 #[.pointer (some (hereA tb fs))] w fun e w' => e = .returned (.tuple #[]) ∧ TreeM w' tb (plug fs (tidyM (.node b q x h c s t))) ∧ Only (Blks tb (plug fs (.node b q x h c s t))) w w' := by
  obtain ⟨hb, hi, hE⟩ := here_form tb fs
  have h1 := here_cell hT
  have h2 := here_froz hT
  have hM := ((mt_plug fs _ w).1 hT.2.1).2
  have hblk : Blks tb (plug fs (.node b q x h c s t)) (hereA tb fs).block := by
    cases fs with
    | nil => exact .inl rfl
    | cons f fs => exact .inr (by rw [cnt_plug, hereA_cons]; simp only [cntC, if_pos]; omega)
  have hg := fun (W1 : World) (hb1 : Below w.heap.size w W1) => hang (hT.below hb1) (mt_tidy (hM.keep (fun k hk => hb1.block k (hM.low k hk)))) (fun a => by
    have h5 := hT.2.2 a
    have h6 := cnt_tidy b q x h c s t a
    rw [cnt_plug] at h5 ⊢
    omega)
  rw [hE] at h1 h2 hblk hg ⊢
  refine (tidy_any h1 h2 hM.1).mono ?_
  rintro e w' ⟨rfl, h3 | ⟨W1, h3, rfl⟩⟩
  · exact ⟨rfl, by rw [h3.1]; exact hT.below h3.2, Only.of h3.2⟩
  · exact ⟨rfl, hg W1 h3, (Only.of h3).set hblk _⟩
end Go.Proofs.Ytpcahgnibdampaa.Tri
