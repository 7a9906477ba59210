/- Plain mathematics: prefixes in order, each with a number; what is there of them. It speaks of no function of the program. Plain mathematics: a tree of prefixes no node of which is idle, and the rows that it stands for. It speaks of no function of the program. Words for memory: prefixes in a row, each with a number. It speaks of no function of the program. What gives prefixes in memory of its own. Plain mathematics: rows by their places. It speaks of no function of the program. The reference's Same, of any two lists of prefixes. -/
import Derived.Test.YtpcahgnibdampaaH00
import Derived.Test.YtpcahgnibdampaaH04
import Derived.BigQuiet
namespace Go.Proofs.Ytpcahgnibdampaa.Tri
open PR Pfx
instance : DecidableEq Pf := fun p q => if h : p.a = q.a ∧ p.n = q.n then isTrue (by
    obtain ⟨a, n⟩ := p
    obtain ⟨b, m⟩ := q
    obtain ⟨h1, h2⟩ := h
    dsimp only at h1 h2
    rw [h1, h2]) else isFalse (fun e => h (by rw [e]; exact ⟨rfl, rfl⟩))
structure Ent where
  p : Pf
  v : Int
def goodP (p : Pf) : Bool := goodB p.a p.n
def covP (p q : Pf) : Bool := coversB p.a p.n q.a q.n
def ltP (p q : Pf) : Prop := p.a < q.a ∨ p.a = q.a ∧ p.n < q.n
instance (p q : Pf) : Decidable (ltP p q) := by unfold ltP; exact inferInstance
theorem pf_ext {p q : Pf} (h : p.a = q.a) (h2 : p.n = q.n) : p = q := by
  obtain ⟨a, n⟩ := p
  obtain ⟨b, m⟩ := q
  dsimp only at h h2
  rw [h, h2]
theorem lt_irrefl (p : Pf) : ¬ ltP p p := by unfold ltP; omega
theorem lt_trans {p q r : Pf} (h : ltP p q) (h2 : ltP q r) : ltP p r := by unfold ltP at *; omega
theorem lt_asymm {p q : Pf} (h : ltP p q) : ¬ ltP q p := by unfold ltP at *; omega
theorem lt_tri (p q : Pf) : ltP p q ∨ p = q ∨ ltP q p := by
  unfold ltP
  rcases Nat.lt_trichotomy p.a q.a with h | h | h
  · exact .inl (.inl h)
  · rcases Int.lt_trichotomy p.n q.n with h2 | h2 | h2
    · exact .inl (.inr ⟨h, h2⟩)
    · exact .inr (.inl (pf_ext h h2))
    · exact .inr (.inr (.inr ⟨h.symm, h2⟩))
  · exact .inr (.inr (.inl h))
def Ord (l : List Ent) : Prop := l.Pairwise (fun x y => ltP x.p y.p)
def keys (l : List Ent) : List Pf := l.map (·.p)
def getE (l : List Ent) (p : Pf) : Option Int := (l.find? (fun e => decide (e.p = p))).map (·.v)
def putE : List Ent → Pf → Int → List Ent
  | [], p, v => [⟨p, v⟩]
  | e :: l, p, v => if e.p = p then ⟨p, v⟩ :: l else if ltP e.p p then e :: putE l p v else ⟨p, v⟩ :: e :: l
def cutE : List Ent → Pf → List Ent
  | [], _ => []
  | e :: l, p => if e.p = p then l else e :: cutE l p
def aboveE (l : List Ent) (p : Pf) : List Pf := (l.filter (fun e => decide (e.p ≠ p) && covP e.p p)).map (·.p)
def belowE (l : List Ent) (p : Pf) : List Pf := (l.filter (fun e => decide (e.p ≠ p) && covP p e.p)).map (·.p)
def shortB : Option Ent → Pf → Bool
  | none, _ => true
  | some x, q => decide (x.p.n < q.n)
def longE (a : Nat) : Option Ent → List Ent → Option Ent
  | b, [] => b
  | b, e :: l => longE a (if covP e.p ⟨a, 32⟩ && shortB b e.p then some e else b) l
theorem keys_put : ∀ (l : List Ent) (p : Pf) (v : Int) (q : Pf), q ∈ keys (putE l p v) ↔ q = p ∨ q ∈ keys l
  | [], p, v, q => by simp [putE, keys]
  | e :: l, p, v, q => by
    have ih := keys_put l p v q
    unfold putE
    split
    · rename_i h
      simp only [keys, List.map_cons, List.mem_cons, h]
      constructor
      · rintro (h | h)
        · exact .inl h
        · exact .inr (.inr h)
      · rintro (h | h | h)
        · exact .inl h
        · exact .inl h
        · exact .inr h
    · split
      · simp only [keys, List.map_cons, List.mem_cons] at ih ⊢
        rw [ih]
        constructor
        · rintro (h | h | h)
          · exact .inr (.inl h)
          · exact .inl h
          · exact .inr (.inr h)
        · rintro (h | h | h)
          · exact .inr (.inl h)
          · exact .inl h
          · exact .inr (.inr h)
      · simp only [keys, List.map_cons, List.mem_cons]
theorem ord_put : ∀ (l : List Ent) (p : Pf) (v : Int), Ord l → Ord (putE l p v)
  | [], p, v, _ => by simp [putE, Ord]
  | e :: l, p, v, h => by
    unfold Ord at h
    rw [List.pairwise_cons] at h
    obtain ⟨h1, h2⟩ := h
    unfold putE
    split
    · rename_i he
      unfold Ord
      rw [List.pairwise_cons]
      exact ⟨fun y hy => he ▸ h1 y hy, h2⟩
    · rename_i hne
      split
      · rename_i hlt
        unfold Ord
        rw [List.pairwise_cons]
        refine ⟨fun y hy => ?_, ord_put l p v h2⟩
        have hk : y.p ∈ keys (putE l p v) := List.mem_map.2 ⟨y, hy, rfl⟩
        rcases (keys_put l p v y.p).1 hk with e2 | hk
        · rw [e2]; exact hlt
        · obtain ⟨z, hz, e2⟩ := List.mem_map.1 hk
          rw [← e2]; exact h1 z hz
      · rename_i hnl
        have hlt : ltP p e.p := (lt_tri e.p p).resolve_left hnl |>.resolve_left hne
        unfold Ord
        rw [List.pairwise_cons]
        refine ⟨fun y hy => ?_, List.pairwise_cons.2 ⟨h1, h2⟩⟩
        rcases List.mem_cons.1 hy with rfl | hy
        · exact hlt
        · exact lt_trans hlt (h1 y hy)
theorem cut_sub : ∀ (l : List Ent) (p : Pf), (cutE l p).Sublist l
  | [], _ => List.Sublist.slnil
  | e :: l, p => by
    unfold cutE
    split
    · exact List.sublist_cons_self _ _
    · exact (cut_sub l p).cons_cons e
theorem ord_cut (l : List Ent) (p : Pf) (h : Ord l) : Ord (cutE l p) := h.sublist (cut_sub l p)
theorem keys_ext : ∀ (l m : List Pf), l.Pairwise ltP → m.Pairwise ltP → (∀ q, q ∈ l ↔ q ∈ m) → l = m
  | [], [], _, _, _ => rfl
  | [], q :: m, _, _, h => by have := (h q).2 List.mem_cons_self; cases this
  | p :: l, [], _, _, h => by have := (h p).1 List.mem_cons_self; cases this
  | p :: l, q :: m, h1, h2, h => by
    rw [List.pairwise_cons] at h1 h2
    have e : p = q := by
      rcases List.mem_cons.1 ((h p).1 List.mem_cons_self) with e | hp
      · exact e
      · rcases List.mem_cons.1 ((h q).2 List.mem_cons_self) with e | hq
        · exact e.symm
        · exact absurd (h1.1 q hq) (lt_asymm (h2.1 p hp))
    subst e
    rw [keys_ext l m h1.2 h2.2 (fun x => ?_)]
    constructor
    · intro hx
      rcases List.mem_cons.1 ((h x).1 (List.mem_cons_of_mem _ hx)) with e | hm
      · exact absurd (h1.1 x hx) (e ▸ lt_irrefl _)
      · exact hm
    · intro hx
      rcases List.mem_cons.1 ((h x).2 (List.mem_cons_of_mem _ hx)) with e | hm
      · exact absurd (h2.1 x hx) (e ▸ lt_irrefl _)
      · exact hm
theorem ord_keys {l : List Ent} (h : Ord l) : (keys l).Pairwise ltP := List.pairwise_map.2 h
theorem get_none {l : List Ent} {p : Pf} : getE l p = none ↔ p ∉ keys l := by
  unfold getE keys
  rw [Option.map_eq_none_iff, List.find?_eq_none]
  constructor
  · intro h hp
    obtain ⟨e, he, e2⟩ := List.mem_map.1 hp
    exact h e he (decide_eq_true e2)
  · intro h e he h2
    exact h (List.mem_map.2 ⟨e, he, of_decide_eq_true h2⟩)
end Go.Proofs.Ytpcahgnibdampaa.Tri
namespace Go.Proofs.Ytpcahgnibdampaa.Tri
open PR Pfx
theorem cut_next (a k : Nat) (hk : k < 32) : cutN a (k + 1) = cutN a k + bitN a k * 2 ^ (31 - k) := by
  unfold cutN bitN
  rw [show 32 - (k + 1) = 31 - k by omega, pow_split k hk, ← Nat.div_div_eq_div_mul]
  generalize 2 ^ (31 - k) = t
  generalize a / t = z
  rw [Nat.mul_comm t 2, ← Nat.mul_assoc, ← Nat.add_mul]
  congr 1; omega
inductive Tr where
  | nil : Tr
  | node : Pf → Option Int → Tr → Tr → Tr
def topE (p : Pf) : Option Int → List Ent
  | none => []
  | some x => [⟨p, x⟩]
def ents : Tr → List Ent
  | .nil => []
  | .node p v a b => topE p v ++ (ents a ++ ents b)
def size : Tr → Nat
  | .nil => 0
  | .node _ _ a b => 1 + size a + size b
def Side (p : Pf) (i : Nat) (q : Pf) : Prop := p.n < q.n ∧ cutN q.a p.n.toNat = p.a ∧ bitN q.a p.n.toNat = i
def In (p : Pf) (i : Nat) : Tr → Prop
  | .nil => True
  | .node q _ _ _ => Side p i q
def WF : Tr → Prop
  | .nil => True
  | .node p v a b => (goodP p = true ∧ p.a < 4294967296) ∧ (v.isSome = true ∨ (a ≠ .nil ∧ b ≠ .nil)) ∧ In p 0 a ∧ In p 1 b ∧ WF a ∧ WF b
theorem good_len {p : Pf} (h : goodP p = true) : 0 ≤ p.n ∧ p.n ≤ 32 := goodB_len h
theorem good_cut {p : Pf} (h : goodP p = true) : cutN p.a p.n.toNat = p.a := by
  have h1 := good_len h
  unfold goodP at h
  rw [show p.n = ((p.n.toNat : Nat) : Int) by omega] at h
  simpa using goodB_cut h
theorem cutN_cutN (a m n : Nat) (h : n ≤ m) (hm : m ≤ 32) : cutN (cutN a m) n = cutN a n := by
  refine Nat.eq_of_testBit_eq fun i => ?_
  rw [testBit_cut, testBit_cut, testBit_cut]
  by_cases h1 : 32 - n ≤ i
  · have h2 : 32 - m ≤ i := by omega
    simp [h1, h2]
  · simp [h1]
theorem bit_test (a i : Nat) : bitN a i = (a.testBit (31 - i)).toNat := by
  unfold bitN
  rw [Nat.toNat_testBit]
theorem bit_cut (a m i : Nat) (h : i < m) (hm : m ≤ 32) : bitN (cutN a m) i = bitN a i := by
  rw [bit_test, bit_test, testBit_cut]
  have : 32 - m ≤ 31 - i := by omega
  simp [this]
theorem side_trans {p q r : Pf} {i j : Nat} (hp : goodP p = true) (hq : goodP q = true) (h : Side p i q) (h2 : Side q j r) : Side p i r := by
  obtain ⟨h3, h4, h5⟩ := h
  obtain ⟨h6, h7, h8⟩ := h2
  have hl := good_len hp
  have hl2 := good_len hq
  refine ⟨by omega, ?_, ?_⟩
  · rw [← cutN_cutN r.a q.n.toNat p.n.toNat (by omega) (by omega), h7, h4]
  · rw [← bit_cut r.a q.n.toNat p.n.toNat (by omega) (by omega), h7, h5]
theorem in_keys : ∀ (t : Tr) (p : Pf) (i : Nat), goodP p = true → WF t → In p i t → ∀ k ∈ keys (ents t), Side p i k
  | .nil, _, _, _, _, _, k, hk => by cases hk
  | .node q v a b, p, i, hp, hw, hi, k, hk => by
    obtain ⟨⟨hq, -⟩, -, ha, hb, wa, wb⟩ := hw
    have e : ents (.node q v a b) = topE q v ++ (ents a ++ ents b) := rfl
    rw [e] at hk
    simp only [keys, List.map_append, List.mem_append] at hk
    rcases hk with hk | hk | hk
    · cases v with
      | none => simp [topE] at hk
      | some x =>
        simp only [topE, List.map_cons, List.map_nil, List.mem_singleton] at hk
        rw [hk]; exact hi
    · exact side_trans hp hq hi (in_keys a q 0 hq wa ha k hk)
    · exact side_trans hp hq hi (in_keys b q 1 hq wb hb k hk)
theorem bit_le (a k : Nat) (hk : k < 32) : a < cutN a (k + 1) + 2 ^ (31 - k) := by
  unfold cutN
  rw [show 32 - (k + 1) = 31 - k by omega]
  have := Nat.mod_add_div a (2 ^ (31 - k))
  have h2 := Nat.mod_lt a (pow_pos (31 - k))
  rw [Nat.mul_comm (a / 2 ^ (31 - k))]
  omega
theorem side_lt {p q r : Pf} (hp : goodP p = true) (hr : goodP r = true) (h : Side p 0 q) (h2 : Side p 1 r) : ltP q r := by
  have hl := good_len hp
  have hl2 := good_len hr
  have hlt := h2.1
  have h3 := cut_next q.a p.n.toNat (by omega)
  have h4 := cut_next r.a p.n.toNat (by omega)
  rw [h.2.1, h.2.2] at h3
  rw [h2.2.1, h2.2.2] at h4
  have h5 := bit_le q.a p.n.toNat (by omega)
  have h6 := cutN_le r.a (p.n.toNat + 1)
  refine .inl ?_
  omega
theorem side_up {p q : Pf} {i : Nat} (h : Side p i q) : ltP p q := by
  have h1 := cutN_le q.a p.n.toNat
  rw [h.2.1] at h1
  rcases Nat.lt_or_ge p.a q.a with h2 | h2
  · exact .inl h2
  · exact .inr ⟨by omega, h.1⟩
def GoodL (l : List Ent) : Prop := ∀ k ∈ keys l, goodP k = true ∧ k.a < 4294967296
theorem ents_good : ∀ (t : Tr), WF t → GoodL (ents t)
  | .nil, _, k, hk => by cases hk
  | .node q v a b, hw, k, hk => by
    obtain ⟨hq, -, -, -, wa, wb⟩ := hw
    have e : ents (.node q v a b) = topE q v ++ (ents a ++ ents b) := rfl
    rw [e] at hk
    simp only [keys, List.map_append, List.mem_append] at hk
    rcases hk with hk | hk | hk
    · cases v with
      | none => simp [topE] at hk
      | some x =>
        simp only [topE, List.map_cons, List.map_nil, List.mem_singleton] at hk
        rw [hk]; exact hq
    · exact ents_good a wa k hk
    · exact ents_good b wb k hk
theorem key_mem {l : List Ent} {e : Ent} (h : e ∈ l) : e.p ∈ keys l := List.mem_map.2 ⟨e, h, rfl⟩
theorem ents_ord : ∀ (t : Tr), WF t → Ord (ents t)
  | .nil, _ => List.Pairwise.nil
  | .node q v a b, hw => by
    obtain ⟨hq, -, ia, ib, wa, wb⟩ := hw
    have ka := in_keys a q 0 hq.1 wa ia
    have kb := in_keys b q 1 hq.1 wb ib
    have h2 : Ord (ents a ++ ents b) := List.pairwise_append.2 ⟨ents_ord a wa, ents_ord b wb, fun x hx y hy => side_lt hq.1 (ents_good b wb y.p (key_mem hy)).1 (ka x.p (key_mem hx)) (kb y.p (key_mem hy))⟩
    cases v with
    | none => exact h2
    | some x =>
      refine List.pairwise_cons.2 ⟨fun y hy => ?_, h2⟩
      rcases List.mem_append.1 (show y ∈ ents a ++ ents b from hy) with hy | hy
      · exact side_up (ka y.p (key_mem hy))
      · exact side_up (kb y.p (key_mem hy))
theorem ents_some : ∀ (t : Tr), WF t → t ≠ .nil → ents t ≠ []
  | .nil, _, h => absurd rfl h
  | .node q v a b, hw, _ => by
    obtain ⟨-, h, -, -, wa, -⟩ := hw
    cases v with
    | some x => intro e; cases e
    | none =>
      obtain ⟨h1, -⟩ := h.resolve_left (by decide)
      intro e
      have e2 : ents a ++ ents b = [] := e
      exact ents_some a wa h1 (List.append_eq_nil_iff.1 e2).1
theorem size_le : ∀ (t : Tr), WF t → (ents t).length ≤ size t ∧ (t ≠ .nil → size t + 1 ≤ 2 * (ents t).length)
  | .nil, _ => ⟨Nat.le_refl _, fun h => absurd rfl h⟩
  | .node q v a b, hw => by
    obtain ⟨-, h, -, -, wa, wb⟩ := hw
    obtain ⟨a1, a2⟩ := size_le a wa
    obtain ⟨b1, b2⟩ := size_le b wb
    have za : a = .nil → size a = 0 := fun e => by rw [e]; rfl
    have zb : b = .nil → size b = 0 := fun e => by rw [e]; rfl
    have ha : size a ≤ 2 * (ents a).length := by
      by_cases e : a = .nil
      · have := za e; omega
      · have := a2 e; omega
    have hb : size b ≤ 2 * (ents b).length := by
      by_cases e : b = .nil
      · have := zb e; omega
      · have := b2 e; omega
    cases v with
    | some x =>
      have e : (ents (.node q (some x) a b)).length = 1 + ((ents a).length + (ents b).length) := by simp [ents, topE, Nat.add_comm]
      have e2 : size (.node q (some x) a b) = 1 + size a + size b := rfl
      exact ⟨by omega, fun _ => by omega⟩
    | none =>
      have e : (ents (.node q none a b)).length = (ents a).length + (ents b).length := by simp [ents, topE]
      have e2 : size (.node q none a b) = 1 + size a + size b := rfl
      obtain ⟨h1, h2⟩ := h.resolve_left (by decide)
      have := a2 h1
      have := b2 h2
      exact ⟨by omega, fun _ => by omega⟩
def Cov (p q : Pf) : Prop := p.n ≤ q.n ∧ cutN q.a p.n.toNat = p.a
theorem side_cov {p q : Pf} {i : Nat} (h : Side p i q) : Cov p q := ⟨Int.le_of_lt h.1, h.2.1⟩
theorem root_cov {q : Pf} {v : Option Int} {a b : Tr} (hw : WF (.node q v a b)) : ∀ k ∈ keys (ents (.node q v a b)), Cov q k := fun k hk => by
  obtain ⟨hq, -, ia, ib, wa, wb⟩ := hw
  have e : ents (.node q v a b) = topE q v ++ (ents a ++ ents b) := rfl
  rw [e] at hk
  simp only [keys, List.map_append, List.mem_append] at hk
  rcases hk with hk | hk | hk
  · cases v with
    | none => simp [topE] at hk
    | some x =>
      simp only [topE, List.map_cons, List.map_nil, List.mem_singleton] at hk
      rw [hk]; exact ⟨Int.le_refl _, good_cut hq.1⟩
  · exact side_cov (in_keys a q 0 hq.1 wa ia k hk)
  · exact side_cov (in_keys b q 1 hq.1 wb ib k hk)
theorem root_low {q r : Pf} {v : Option Int} {a b : Tr} (hw : WF (.node q v a b)) (hr : goodP r = true) (h : ∀ k ∈ keys (ents (.node q v a b)), Cov r k) : r.n ≤ q.n := by
  obtain ⟨hq, hv, ia, ib, wa, wb⟩ := hw
  have e : ents (.node q v a b) = topE q v ++ (ents a ++ ents b) := rfl
  rw [e] at h
  cases v with
  | some x => exact (h q (by simp [keys, topE])).1
  | none =>
    obtain ⟨h1, h2⟩ := hv.resolve_left (by decide)
    obtain ⟨x, hx⟩ := List.exists_mem_of_ne_nil _ (ents_some a wa h1)
    obtain ⟨y, hy⟩ := List.exists_mem_of_ne_nil _ (ents_some b wb h2)
    have sx := in_keys a q 0 hq.1 wa ia x.p (key_mem hx)
    have sy := in_keys b q 1 hq.1 wb ib y.p (key_mem hy)
    have cx := h x.p (by simp only [topE, keys, List.nil_append, List.map_append, List.mem_append]; exact .inl (key_mem hx))
    have cy := h y.p (by simp only [topE, keys, List.nil_append, List.map_append, List.mem_append]; exact .inr (key_mem hy))
    have hl := good_len hq.1
    have hl2 := good_len hr
    rcases Int.lt_or_le q.n r.n with hlt | hle
    · exfalso
      have b1 := bit_cut x.p.a r.n.toNat q.n.toNat (by omega) (by omega)
      have b2 := bit_cut y.p.a r.n.toNat q.n.toNat (by omega) (by omega)
      rw [cx.2, sx.2.2] at b1
      rw [cy.2, sy.2.2] at b2
      omega
    · exact hle
theorem filter_side {p : Pf} {i : Nat} : ∀ (l : List Ent), (∀ k ∈ keys l, Side p i k) → l.filter (fun e => decide (bitN e.p.a p.n.toNat = 0)) = if i = 0 then l else []
  | [], _ => by simp
  | e :: l, h => by
    have ih := filter_side (p := p) (i := i) l (fun k hk => h k (List.mem_cons_of_mem _ hk))
    have hs := (h e.p List.mem_cons_self).2.2
    rw [List.filter_cons, ih, hs]
    by_cases hi : i = 0
    · simp [hi]
    · simp [hi]
theorem tree_ext : ∀ (t u : Tr), WF t → WF u → ents t = ents u → t = u
  | .nil, .nil, _, _, _ => rfl
  | .nil, .node q v a b, _, hw, h => absurd h.symm (ents_some _ hw (fun e => by cases e))
  | .node q v a b, .nil, hw, _, h => absurd h (ents_some _ hw (fun e => by cases e))
  | .node q v a b, .node r x c d, hw, hw2, h => by
    have c1 := root_cov hw
    have c2 := root_cov hw2
    have l1 := root_low hw hw2.1.1 (h ▸ c2)
    have l2 := root_low hw2 hw.1.1 (h ▸ c1)
    obtain ⟨z, hz⟩ := List.exists_mem_of_ne_nil _ (ents_some _ hw (fun e => by cases e))
    have k1 := c1 z.p (key_mem hz)
    have k2 := c2 z.p (h ▸ key_mem hz)
    have en : q.n = r.n := by omega
    have e0 : q = r := pf_ext (by rw [← k1.2, ← k2.2, en]) en
    subst e0
    obtain ⟨hq, -, ia, ib, wa, wb⟩ := hw
    obtain ⟨-, -, ic, id', wc, wd⟩ := hw2
    have sa := in_keys a q 0 hq.1 wa ia
    have sb := in_keys b q 1 hq.1 wb ib
    have sc := in_keys c q 0 hq.1 wc ic
    have sd := in_keys d q 1 hq.1 wd id'
    have hn : ∀ (s t : Tr), (∀ k ∈ keys (ents s), Side q 0 k) → (∀ k ∈ keys (ents t), Side q 1 k) → ∀ y : Int, (⟨q, y⟩ : Ent) ∉ ents s ++ ents t := fun s t hs ht y hm => by
      rcases List.mem_append.1 hm with hm | hm
      · exact absurd (hs q (key_mem hm)).1 (Int.lt_irrefl _)
      · exact absurd (ht q (key_mem hm)).1 (Int.lt_irrefl _)
    have hh : topE q v ++ (ents a ++ ents b) = topE q x ++ (ents c ++ ents d) := h
    obtain ⟨ev, er⟩ : v = x ∧ ents a ++ ents b = ents c ++ ents d := by
      cases v with
      | none =>
        cases x with
        | none => exact ⟨rfl, hh⟩
        | some y =>
          have hh2 : ents a ++ ents b = ⟨q, y⟩ :: (ents c ++ ents d) := hh
          exact absurd (hh2 ▸ List.mem_cons_self) (hn a b sa sb y)
      | some y =>
        cases x with
        | none =>
          have hh2 : ⟨q, y⟩ :: (ents a ++ ents b) = ents c ++ ents d := hh
          exact absurd (hh2 ▸ List.mem_cons_self) (hn c d sc sd y)
        | some y2 =>
          have hh2 : (⟨q, y⟩ : Ent) :: (ents a ++ ents b) = ⟨q, y2⟩ :: (ents c ++ ents d) := hh
          injection hh2 with e1 e2
          injection e1 with _ e1
          exact ⟨by rw [e1], e2⟩
    have f1 := congrArg (List.filter (fun e : Ent => decide (bitN e.p.a q.n.toNat = 0))) er
    rw [List.filter_append, List.filter_append, filter_side _ sa, filter_side _ sb, filter_side _ sc, filter_side _ sd] at f1
    simp only [if_true, Nat.one_ne_zero, if_false, List.append_nil] at f1
    rw [f1] at er
    rw [ev, tree_ext a c wa wc f1, tree_ext b d wb wd (List.append_cancel_left er)]
end Go.Proofs.Ytpcahgnibdampaa.Tri
namespace Go.Proofs.Ytpcahgnibdampaa.Tri
open Go.RowKit Mem PR
def Ent.ok (e : Ent) : Prop := e.p.ok ∧ (Lit.int .i64 e.v).wf = true
def ecell (e : Ent) : List Value := [.int .u32 e.p.a, .int .i64 e.p.n, .int .i64 e.v]
def ecells (l : List Ent) : List Value := l.flatMap ecell
theorem ecells_cons (e : Ent) (l : List Ent) : ecells (e :: l) = ecell e ++ ecells l := by simp [ecells]
theorem ecells_at : ∀ (i : Nat) (l : List Ent) (p : Ent), l[i]? = some p → ∀ j u, (ecell p)[j]? = some u → (ecells l)[i * 3 + j]? = some u
  | 0, b :: l, p, h, j, u, hu => by
    simp at h
    subst h
    have hj : j < 3 := by have := (List.getElem?_eq_some_iff.1 hu).1; simpa [ecell] using this
    rw [ecells_cons, List.getElem?_append_left (by simp [ecell]; omega), Nat.zero_mul, Nat.zero_add]
    exact hu
  | i + 1, b :: l, p, h, j, u, hu => by
    have h2 := ecells_at i l p (by simpa using h) j u hu
    rw [ecells_cons, List.getElem?_append_right (by simp [ecell]; omega), show (i + 1) * 3 + j - (ecell b).length = i * 3 + j by simp [ecell]; omega]
    exact h2
  | 0, [], p, h, _, _, _ => by simp at h
  | i + 1, [], p, h, _, _, _ => by simp at h
def Eoks (l : List Ent) : Prop := ∀ e ∈ l, e.ok
def Rws (w : World) (v : Value) (l : List Ent) : Prop := Row w 3 v l.length (ecells l) ∧ Eoks l
section
variable {w w' : World} {v : Value} {l : List Ent}
theorem Rws.keep (h : Rws w v l) (hb : Below w.heap.size w w') : Rws w' v l := ⟨h.1.keep hb, h.2⟩
theorem Rws.of_own {base : Nat} {e : TypeId} (h : w.ownsRow base e 3 v l.length (ecells l)) (hl : Eoks l) : Rws w v l := ⟨Row.of_own h, hl⟩
theorem Rws.form (h : Rws w v l) : ∃ A c, v = .slice A l.length c ∧ l.length ≤ c ∧ c ≤ 9223372036854775807 := by
  obtain ⟨⟨_, A, c, rfl, h1, h2, _⟩, _⟩ := h
  exact ⟨A, c, rfl, h1, h2⟩
theorem Rws.at_ {A : Option Addr} {n c i : Nat} {e : Ent} (h : Rws w (.slice A n c) l) (hi : l[i]? = some e) :
    ∃ b off, A = some ⟨b, off, none⟩ ∧ b < w.heap.size ∧ w.cell? ⟨b, off + i * 3, none⟩ = some (.int .u32 e.p.a) ∧ w.cell? ⟨b, off + i * 3 + 1, none⟩ = some (.int .i64 e.p.n) ∧ w.cell? ⟨b, off + i * 3 + 2, none⟩ = some (.int .i64 e.v) := by
  obtain ⟨⟨_, A', c', e0, _, _, hr⟩, _⟩ := h
  injection e0 with e1 e2 e3
  subst e1 e3
  have hlt := (List.getElem?_eq_some_iff.1 hi).1
  obtain ⟨b, off, rfl, hb, hc⟩ := hr (by omega)
  have k := fun j u hu => hc (i * 3 + j) u (ecells_at i l e hi j u hu)
  refine ⟨b, off, rfl, hb, k 0 _ rfl, ?_, ?_⟩
  · rw [Nat.add_assoc]; exact k 1 _ rfl
  · rw [Nat.add_assoc]; exact k 2 _ rfl
end
end Go.Proofs.Ytpcahgnibdampaa.Tri
namespace Go.Proofs.Ytpcahgnibdampaa.PR
open Go.RowKit Go.Sort Mem Pfx
theorem elemP : ∃ i, IsElem Try.prog 41 25 2 16 i (.agg #[.int .u32 0, .int .i64 0]) := IsElem.mk_ Try.underlying41 (by kernel_rfl) rfl (by decide)
def GivesP (l : List Pf) (w : World) (e : Ending) (w' : World) : Prop :=
  ∃ A c, e = .returned (.slice A l.length c) ∧ w'.ownsRow w.heap.size 25 2 (.slice A l.length c) l.length (pcells l) ∧ Below w.heap.size w w'
end Go.Proofs.Ytpcahgnibdampaa.PR
namespace Go.Proofs.Ytpcahgnibdampaa.Tri
open PR Pfx
theorem cut_no : ∀ (l : List Ent) (p : Pf), (∀ e ∈ l, e.p ≠ p) → cutE l p = l
  | [], _, _ => rfl
  | d :: l, p, h => by
    unfold cutE
    rw [if_neg (h d List.mem_cons_self), cut_no l p (fun e he => h e (List.mem_cons_of_mem _ he))]
end Go.Proofs.Ytpcahgnibdampaa.Tri
namespace Go.Proofs.Ytpcahgnibdampaa.PR
open Go.RowKit Go.Sort Mem Pfx
theorem take_same {l m : List Pf} {j : Nat} {p : Pf} (h : l.take j = m.take j) (hl : l[j]? = some p) (hm : m[j]? = some p) : l.take (j + 1) = m.take (j + 1) := by
  rw [List.take_add_one, List.take_add_one, h, hl, hm]
set_option maxHeartbeats 2000000 in
theorem refSameP_any [DecidableEq Pf] (v u : Value) (l m : List Pf) (w : World) (hv : Pfxs w v l) (hu : Pfxs w u m) : Calls Try.prog 14 #[v, u] w (Tells (.bool (decide (l = m))) w) := by
  have HV := Go.Lib.hid hv
  have HU := Go.Lib.hid hu
  obtain ⟨A, c, rfl, hlc, hc⟩ := hv.form
  obtain ⟨A2, c2, rfl, hlc2, hc2⟩ := hu.form
  clear hv hu
  by_cases hlen : l.length = m.length
  case neg =>
    have y : ((l.length : Int) != (m.length : Int)) = true := by simp; omega
    have HD := Go.Lib.hid (show decide (l = m) = false from decide_eq_false (fun e => hlen (by rw [e])))
    rw [HD.out]
    clear hlen HD
    go_enter Try.func14, Try.ntmps14
    go_wp2
    go_ret
    exact ⟨rfl, Below.refl _ _⟩
  have y : ((l.length : Int) != (m.length : Int)) = false := by simp; omega
  have hml : m.length ≤ l.length ∧ l.length ≤ m.length := by omega
  clear hlen
  go_enter Try.func14, Try.ntmps14
  go_wp2
  go_loopw [5] (fun v5 wx => ∃ j : Nat, j ≤ l.length ∧ v5 = .int .i64 j ∧ Hid (l.take j = m.take j) ∧ Hid (Below w.heap.size w wx)) (fun v5 _ => l.length - (intOf v5).toNat)
  case atStart => exact ⟨0, Nat.zero_le _, rfl, Go.Lib.hid (by simp), Go.Lib.hid (Below.refl _ _)⟩
  case round =>
    obtain ⟨j, hj, rfl, ht, hb⟩ := hrel
    by_cases hlt : j < l.length
    · obtain ⟨p, hp⟩ : ∃ p, l[j]? = some p := ⟨_, List.getElem?_eq_getElem hlt⟩
      obtain ⟨q, hq⟩ : ∃ q, m[j]? = some q := ⟨_, List.getElem?_eq_getElem (by omega)⟩
      obtain ⟨b, off, rfl, hbl, k0, k1⟩ := (HV.out).at_ hp
      obtain ⟨b2, off2, rfl, hbl2, k2, k3⟩ := (HU.out).at_ hq
      have c0 := (hb.out.cell (p := ⟨b, off + j * 2, none⟩) hbl).trans k0
      have c1 := (hb.out.cell (p := ⟨b, off + j * 2 + 1, none⟩) hbl).trans k1
      have c2 := (hb.out.cell (p := ⟨b2, off2 + j * 2, none⟩) hbl2).trans k2
      have c3 := (hb.out.cell (p := ⟨b2, off2 + j * 2 + 1, none⟩) hbl2).trans k3
      have z0 : (0 : Int) ≤ (j : Int) := by omega
      have z1 : (j : Int) < (l.length : Int) := by omega
      have z2 : (j : Int) < (m.length : Int) := by omega
      by_cases hpq : p = q
      · subst hpq
        have HT := Go.Lib.hid (take_same ht.out hp hq)
        clear k0 k1 k2 k3 hp hq hbl hbl2
        go_wp2
        go_quiet (fail)
        go_wp2
        go_roundw
        case rel => exact ⟨j + 1, hlt, by go_num, HT, Go.Lib.hid (hb.out.trans ((Mem.below_drewN _ _).mono hb.out.size))⟩
        case measure => simp [intOf]; omega
      · have HD := Go.Lib.hid (show decide (l = m) = false from decide_eq_false (fun e => by rw [e, hq] at hp; injection hp with hp; exact hpq hp.symm))
        obtain ⟨pa, pn⟩ := p
        obtain ⟨qa, qn⟩ := q
        clear k0 k1 k2 k3 hp hq hbl hbl2
        dsimp only at c0 c1 c2 c3
        rw [HD.out]
        by_cases ha : pa = qa
        · have hn : ¬ pn = qn := fun e => hpq (by rw [ha, e])
          have y1 : (pn == qn) = false := by simp [hn]
          subst ha
          clear hpq hn
          go_wp2
          go_quiet (fail)
          go_wp2
          go_ret
          exact ⟨rfl, hb.out.trans ((Mem.below_drewN _ _).mono hb.out.size)⟩
        · have y1 : ((pa : Int) == (qa : Int)) = false := by simp; omega
          clear hpq ha
          go_wp2
          go_quiet (fail)
          go_wp2
          go_ret
          exact ⟨rfl, hb.out.trans ((Mem.below_drewN _ _).mono hb.out.size)⟩
    · have HJ := Go.Lib.hid (show j = l.length by omega)
      have HD := Go.Lib.hid (show decide (l = m) = true from decide_eq_true (by
        have h1 := ht.out
        have h2 := HJ.out
        rw [h2, List.take_length, List.take_of_length_le (by omega)] at h1
        exact h1))
      have z1 : decide ((j : Int) < (l.length : Int)) = false := decide_eq_false (by omega)
      go_wp2
      go_ret
      exact ⟨by rw [HD.out]; rfl, hb.out⟩
end Go.Proofs.Ytpcahgnibdampaa.PR
