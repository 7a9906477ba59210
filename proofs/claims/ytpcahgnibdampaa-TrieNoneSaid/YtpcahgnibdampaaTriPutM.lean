/- The contract of the trie's Put. -/
import Derived.Test.YtpcahgnibdampaaTriInc
import Derived.Outline
import Derived.Deep.DeepCutAuto
import Derived.Deep.CutRange
import Derived.Deep.Cut
import Derived.Laws.Tables
import Derived.BigQuiet
import Derived.Deep.RegionHeld3
import Derived.Lib.QuietBelow
namespace Go.Proofs.Ytpcahgnibdampaa.Tri
open Go.RowKit Mem PR Pfx Oct

theorem plug_app : ∀ (gs fs : List Fr) (N : MT), plug (gs ++ fs) N = plug fs (plug gs N)
  | [], _, _ => rfl
  | g :: gs, fs, N => plug_app gs fs (g.put N)
theorem ins_form (b1 b2 : Nat) (p : Pf) (m : MT) : ∃ (gs : List Fr) (c : Int) (s t : MT), ∀ x h, insL b1 b2 p x h m = plug gs (.node b1 p x h c s t) := by
  cases m with
  | nil => exact ⟨[], 0, .nil, .nil, fun _ _ => rfl⟩
  | node b q x0 h0 c s t =>
    by_cases hc : covP p q = true
    · by_cases h0' : sd p q = 0
      · exact ⟨[], c, .node b q x0 h0 c s t, .nil, fun x h => by rw [insL_node, if_pos hc, if_pos h0']; rfl⟩
      · exact ⟨[], c, .nil, .node b q x0 h0 c s t, fun x h => by rw [insL_node, if_pos hc, if_neg h0']; rfl⟩
    · by_cases h0' : sd (comP p q) p = 0
      · exact ⟨[⟨b2, comP p q, 0, false, c, false, .node b q x0 h0 c s t⟩], 0, .nil, .nil, fun x h => by rw [insL_node, if_neg hc, if_pos h0']; rfl⟩
      · exact ⟨[⟨b2, comP p q, 0, false, c, true, .node b q x0 h0 c s t⟩], 0, .nil, .nil, fun x h => by rw [insL_node, if_neg hc, if_neg h0']; rfl⟩
theorem get_end : ∀ (m : MT) (p : Pf), WF (tr m) → goodP p = true → told p (endM p m) = getT (tr m) p
  | .nil, _, _, _ => rfl
  | .node b q x h c s t, p, hw, hp => by
    have hq := hw.1.1
    have e : tr (.node b q x h c s t) = .node q (if h then some x else none) (tr s) (tr t) := rfl
    rw [e, endM_node]
    unfold getT
    cases hwi : wiP q p with
    | true =>
      obtain ⟨-, hne, hc, hl⟩ := wi_yes hq hwi
      have hb := wi_sd hq hwi
      rw [if_pos rfl, if_neg hne, if_pos hc, hb]
      split
      · exact get_end s p hw.2.2.2.2.1 hp
      · exact get_end t p hw.2.2.2.2.2 hp
    | false =>
      rw [if_neg (by decide), told_node]
      by_cases he : q = p
      · subst he
        rw [if_pos rfl, if_pos rfl]
      · have hn := (wi_no hq hp hwi).resolve_left (fun e => he e.symm)
        rw [if_neg he, if_neg (fun e => he e.symm), if_neg hn]
theorem cb_fit : ∀ (m : MT), Fit m → (ents (tr m)).length ≤ 1000 → CB m
  | .nil, _, _ => trivial
  | .node b q x h c s t, hf, hl => by
    have e : (ents (tr (.node b q x h c s t))).length = (topE q (if h then some x else none)).length + ((ents (tr s)).length + (ents (tr t)).length) := by
      show (topE q (if h then some x else none) ++ (ents (tr s) ++ ents (tr t))).length = _
      rw [List.length_append, List.length_append]
    have hc := hf.1
    exact ⟨by omega, cb_fit s hf.2.2.1 (by omega), cb_fit t hf.2.2.2 (by omega)⟩
theorem cb_put (b1 b2 : Nat) (p : Pf) (x : Int) : ∀ (m : MT), CB m → CB (atEnd p (putL b1 b2 p x) m)
  | .nil, _ => ⟨by decide, trivial, trivial⟩
  | .node b q x0 h0 c s t, h => by
    rw [atEnd_node]
    split
    · split
      · exact ⟨h.1, cb_put b1 b2 p x s h.2.1, h.2.2⟩
      · exact ⟨h.1, h.2.1, cb_put b1 b2 p x t h.2.2⟩
    · rw [putL_node]
      split
      · exact h
      · rw [insL_node]
        have hz : CB (.node b1 p x true 0 .nil .nil) := ⟨by decide, trivial, trivial⟩
        split
        · split
          · exact ⟨h.1, h, trivial⟩
          · exact ⟨h.1, trivial, h⟩
        · split
          · exact ⟨h.1, hz, h⟩
          · exact ⟨h.1, h, hz⟩
theorem only_grow {F G : Nat → Prop} {a b c : World} (h : Only F a b) (k : Only G b c) (hg : ∀ i, G i → F i ∨ a.heap.size ≤ i) : Only F a c :=
  ⟨k.os.trans h.os, k.tape.trans h.tape, k.output.trans h.output, Nat.le_trans h.size k.size, fun i hi hf => (k.block i (Nat.lt_of_lt_of_le hi h.size) (fun hG => (hg i hG).elim hf (fun h2 => by omega))).trans (h.block i hi hf)⟩
/-- The middle of Put: the node of the prefix is there. -/
structure Mid (W : World) (tb : Nat) (m : MT) (p : Pf) (x : Int) (bn : Nat) (xx : Int) (h : Bool) (w : World) : Prop where
  ex : ∃ (fs : List Fr) (c : Int) (s t : MT) (b1 b2 : Nat), TreeM w tb (plug fs (.node bn p xx h c s t)) ∧ plug fs (.node bn p x true c s t) = atEnd p (putL b1 b2 p x) m ∧ ∀ k, 0 < cnt (plug fs (.node bn p xx h c s t)) k → Blks tb m k ∨ W.heap.size < k
  told : told p (endM p m) = if h then some xx else none
  zero : h = false → xx = 0
  only : Only (Blks tb m) W w
  box : w.heap[W.heap.size]? = some (.cells #[.int .u32 (p.a : Int), .int .i64 p.n] 25)
  bn : bn ≠ W.heap.size
theorem fit_plug : ∀ (fs : List Fr) (m : MT), Fit (plug fs m) → Fit m
  | [], _, h => h
  | f :: fs, m, h => by
    have h2 := fit_plug fs (f.put m) h
    unfold Fr.put at h2
    split at h2
    · exact h2.2.2.2
    · exact h2.2.2.1
theorem Mid.keep {W w w2 : World} {tb : Nat} {m : MT} {p : Pf} {x : Int} {bn : Nat} {xx : Int} {h : Bool} (hm : Mid W tb m p x bn xx h w) (hs : W.heap.size < w.heap.size) (hb : Below w.heap.size w w2) : Mid W tb m p x bn xx h w2 := by
  obtain ⟨fs, c, s, t, b1, b2, k1, k2, k3⟩ := hm.ex
  exact { hm with ex := ⟨fs, c, s, t, b1, b2, k1.below hb, k2, k3⟩, only := hm.only.trans (Only.of hb), box := (hb.block _ hs).trans hm.box }
theorem end_wi (p : Pf) : ∀ (m : MT) {b : Nat} {q : Pf} {x : Int} {h : Bool} {c : Int} {s t : MT}, endM p m = .node b q x h c s t → wiP q p = false
  | .nil, _, _, _, _, _, _, _, e => by cases e
  | .node b q x h c s t, b2, q2, x2, h2, c2, s2, t2, e => by
    rw [endM_node] at e
    cases hw : wiP q p with
    | true =>
      rw [hw, if_pos rfl] at e
      split at e
      · exact end_wi p s e
      · exact end_wi p t e
    | false =>
      rw [hw, if_neg (by decide)] at e
      injection e with _ e2
      rw [← e2]; exact hw
/-- Insert, whatever hangs there. -/
theorem ins_any {w : World} {hb hi : Nat} (p : Pf) (S : MT) (ha : At w hb hi (ptr S)) (hm : Mt w S) (hgm : GoodM S) (hp : goodP p = true) (hpa : p.a < 4294967296) (hno : ∀ b q x h c s t, S = .node b q x h c s t → q ≠ p ∧ wiP q p = false) :
    Calls Try.prog 44 #[.pointer (some ⟨hb, hi, none⟩), pV p] w (InsF hb hi p S w) := by
  rcases nil_or S with rfl | ⟨b, q, x, h, c, s, t, rfl⟩
  · exact insert_nil p ha
  · obtain ⟨h1, h2⟩ := hno _ _ _ _ _ _ _ rfl
    have hn := (wi_no hgm.1.1 hp h2).resolve_left (fun e => h1 e.symm)
    by_cases hc : Cov p q
    · exact insert_over p ha hm hp hpa hgm.1.1 hgm.1.2 hc
    · exact insert_both p ha hm hp hpa hgm.1.1 hgm.1.2 hc hn
/-- Where the prefix's own node is there already. -/
theorem mid_old {W w : World} {tb : Nat} {m : MT} {p : Pf} (x : Int) {bn : Nat} {xx : Int} {h : Bool} {c : Int} {s t : MT} (hT : TreeM W tb m) (hf : Fit m) (he : (down p [] m).2 = .node bn p xx h c s t) (hb : Below W.heap.size W w) (hbox : w.heap[W.heap.size]? = some (.cells #[.int .u32 (p.a : Int), .int .i64 p.n] 25)) : Mid W tb m p x bn xx h w := by
  have h1 := down_plug p m
  rw [he] at h1
  have h2 := plug_down p (putL 0 0 p x) m []
  rw [he, putL_node, if_pos rfl] at h2
  have hlow := hT.low
  have hbn : Blks tb m bn := .inr (by rw [← h1, cnt_plug]; simp only [cnt, if_pos]; omega)
  have hend : endM p m = .node bn p xx h c s t := by rw [← he, down_end]
  have hfit : Fit (.node bn p xx h c s t) := by rw [← h1] at hf; exact fit_plug _ _ hf
  exact { ex := ⟨_, c, s, t, 0, 0, by rw [h1]; exact hT.below hb, h2, fun k hk => .inl (.inr (by rw [h1] at hk; exact hk))⟩, told := by rw [hend, told_node, if_pos rfl], zero := hfit.2.1, only := Only.of hb, box := hbox, bn := fun e => by have := hlow bn hbn; omega }
/-- Where it was hung. -/
theorem mid_new {W w w9 : World} {tb hb hi b1 b2 : Nat} {m : MT} {p : Pf} (x : Int) (hT : TreeM W tb m) (hh : hereA tb (down p [] m).1 = ⟨hb, hi, none⟩) (hbw : Below W.heap.size W w) (hsz : W.heap.size < w.heap.size) (hbox : w.heap[W.heap.size]? = some (.cells #[.int .u32 (p.a : Int), .int .i64 p.n] 25))
    (h1 : w.heap.size ≤ b1) (h2 : w.heap.size ≤ b2) (h12 : b1 ≠ b2) (hb9 : Below w.heap.size w w9) (hM : Mt w9 (insL b1 b2 p 0 false (down p [] m).2)) (hno : told p (endM p m) = none) (hne : ∀ b q x0 h0 c s t, (down p [] m).2 = .node b q x0 h0 c s t → q ≠ p) :
    Mid W tb m p x b1 0 false (w9.setCell ⟨hb, hi, none⟩ (ptr (insL b1 b2 p 0 false (down p [] m).2))) := by
  obtain ⟨gs, c, s, t, hgs⟩ := ins_form b1 b2 p (down p [] m).2
  have hpl := down_plug p m
  have hT9 : TreeM w9 tb (plug (down p [] m).1 (down p [] m).2) := by rw [hpl]; exact hT.below (Pfx.Below.tr hbw hb9)
  have hcnt : ∀ a, cnt (plug (down p [] m).1 (insL b1 b2 p 0 false (down p [] m).2)) a ≤ cnt m a + (if b1 = a then 1 else 0) + (if b2 = a then 1 else 0) := fun a => by
    have h5 := cnt_ins b1 b2 p 0 false a (down p [] m).2
    have h6 := cnt_plug (down p [] m).1 (down p [] m).2 a
    rw [hpl] at h6
    rw [cnt_plug]; omega
  have hlow := hT.low
  have hz : ∀ a, W.heap.size ≤ a → cnt m a = 0 ∧ tb ≠ a := fun a ha => by
    constructor
    · rcases Nat.eq_zero_or_pos (cnt m a) with h | h
      · exact h
      · have := hlow a (.inr h); omega
    · intro e; have := hlow a (.inl e.symm); omega
  have hone : ∀ a, (if tb = a then 1 else 0) + cnt (plug (down p [] m).1 (insL b1 b2 p 0 false (down p [] m).2)) a ≤ 1 := fun a => by
    have h5 := hcnt a
    have h6 := hT.2.2 a
    by_cases ha : W.heap.size ≤ a
    · obtain ⟨h7, h8⟩ := hz a ha
      rw [if_neg h8]
      split at h5 <;> split at h5 <;> omega
    · rw [if_neg (show ¬ b1 = a by omega), if_neg (show ¬ b2 = a by omega)] at h5
      omega
  have hT10 := hang hT9 hM hone
  rw [hh, hgs 0 false, ← plug_app] at hT10
  have hput := plug_down p (putL b1 b2 p x) m []
  have hL : putL b1 b2 p x (down p [] m).2 = insL b1 b2 p x true (down p [] m).2 := by
    rcases nil_or (down p [] m).2 with h | ⟨b, q, x0, h0, c0, s0, t0, h⟩
    · rw [h]; rfl
    · rw [h, putL_node, if_neg (hne b q x0 h0 c0 s0 t0 h)]
  rw [hL, hgs x true, ← plug_app] at hput
  rw [hgs 0 false, ← plug_app] at hcnt
  have hblk : hb < W.heap.size ∧ Blks tb m hb := by
    have : ∀ (fs : List Fr) (N : MT), plug fs N = m → Blks tb m (hereA tb fs).block := fun fs N e => by
      cases fs with
      | nil => exact .inl rfl
      | cons f fs =>
        refine .inr ?_
        rw [← e, cnt_plug, hereA_cons]
        simp only [cntC, if_pos]; omega
    have h5 := this _ _ hpl
    rw [hh] at h5
    exact ⟨hlow hb h5, h5⟩
  have honly : Only (Blks tb m) W w9 := Only.of (Pfx.Below.tr hbw hb9)
  rw [hgs 0 false]
  exact { ex := ⟨_, c, s, t, b1, b2, hT10, hput, fun k hk => by
            have h5 := hcnt k
            by_cases h6 : 0 < cnt m k
            · exact .inl (.inr h6)
            · refine .inr ?_
              split at h5 <;> split at h5 <;> omega⟩, told := by rw [hno]; rfl, zero := fun _ => rfl, only := honly.set hblk.2 _, box := (set_ne (by omega)).trans ((hb9.block _ hsz).trans hbox), bn := by omega }
end Go.Proofs.Ytpcahgnibdampaa.Tri
