/- Plain mathematics: a tree of prefixes no node of which is idle, and the rows that it stands for. It speaks of no function of the program. -/
import Derived.Test.YtpcahgnibdampaaTriMath
namespace Go.Proofs.Ytpcahgnibdampaa.Tri
open PR Pfx

theorem cut_next (a k : Nat) (hk : k < 32) : cutN a (k + 1) = cutN a k + bitN a k * 2 ^ (31 - k) := by
  unfold cutN bitN
  rw [show 32 - (k + 1) = 31 - k by omega, pow_split k hk, ← Nat.div_div_eq_div_mul]
  generalize 2 ^ (31 - k) = t
  generalize a / t = z
  rw [Nat.mul_comm t 2, ← Nat.mul_assoc, ← Nat.add_mul]
  congr 1; omega

inductive Tr where
  | nil : Tr
  | node : Pf → Option Int → Tr → Tr → Tr
def topE (p : Pf) : Option Int → List Ent
  | none => []
  | some x => [⟨p, x⟩]
def ents : Tr → List Ent
  | .nil => []
  | .node p v a b => topE p v ++ (ents a ++ ents b)
def size : Tr → Nat
  | .nil => 0
  | .node _ _ a b => 1 + size a + size b
/-- A prefix that lies within another one, on this side. -/
def Side (p : Pf) (i : Nat) (q : Pf) : Prop := p.n < q.n ∧ cutN q.a p.n.toNat = p.a ∧ bitN q.a p.n.toNat = i
def In (p : Pf) (i : Nat) : Tr → Prop
  | .nil => True
  | .node q _ _ _ => Side p i q
def WF : Tr → Prop
  | .nil => True
  | .node p v a b => (goodP p = true ∧ p.a < 4294967296) ∧ (v.isSome = true ∨ (a ≠ .nil ∧ b ≠ .nil)) ∧ In p 0 a ∧ In p 1 b ∧ WF a ∧ WF b
theorem good_len {p : Pf} (h : goodP p = true) : 0 ≤ p.n ∧ p.n ≤ 32 := goodB_len h
theorem good_cut {p : Pf} (h : goodP p = true) : cutN p.a p.n.toNat = p.a := by
  have h1 := good_len h
  unfold goodP at h
  rw [show p.n = ((p.n.toNat : Nat) : Int) by omega] at h
  simpa using goodB_cut h
theorem cutN_cutN (a m n : Nat) (h : n ≤ m) (hm : m ≤ 32) : cutN (cutN a m) n = cutN a n := by
  refine Nat.eq_of_testBit_eq fun i => ?_
  rw [testBit_cut, testBit_cut, testBit_cut]
  by_cases h1 : 32 - n ≤ i
  · have h2 : 32 - m ≤ i := by omega
    simp [h1, h2]
  · simp [h1]
theorem bit_test (a i : Nat) : bitN a i = (a.testBit (31 - i)).toNat := by
  unfold bitN
  rw [Nat.toNat_testBit]
theorem bit_cut (a m i : Nat) (h : i < m) (hm : m ≤ 32) : bitN (cutN a m) i = bitN a i := by
  rw [bit_test, bit_test, testBit_cut]
  have : 32 - m ≤ 31 - i := by omega
  simp [this]
/-- What lies within what lies within. -/
theorem side_trans {p q r : Pf} {i j : Nat} (hp : goodP p = true) (hq : goodP q = true) (h : Side p i q) (h2 : Side q j r) : Side p i r := by
  obtain ⟨h3, h4, h5⟩ := h
  obtain ⟨h6, h7, h8⟩ := h2
  have hl := good_len hp
  have hl2 := good_len hq
  refine ⟨by omega, ?_, ?_⟩
  · rw [← cutN_cutN r.a q.n.toNat p.n.toNat (by omega) (by omega), h7, h4]
  · rw [← bit_cut r.a q.n.toNat p.n.toNat (by omega) (by omega), h7, h5]
theorem in_keys : ∀ (t : Tr) (p : Pf) (i : Nat), goodP p = true → WF t → In p i t → ∀ k ∈ keys (ents t), Side p i k
  | .nil, _, _, _, _, _, k, hk => by cases hk
  | .node q v a b, p, i, hp, hw, hi, k, hk => by
    obtain ⟨⟨hq, -⟩, -, ha, hb, wa, wb⟩ := hw
    have e : ents (.node q v a b) = topE q v ++ (ents a ++ ents b) := rfl
    rw [e] at hk
    simp only [keys, List.map_append, List.mem_append] at hk
    rcases hk with hk | hk | hk
    · cases v with
      | none => simp [topE] at hk
      | some x =>
        simp only [topE, List.map_cons, List.map_nil, List.mem_singleton] at hk
        rw [hk]; exact hi
    · exact side_trans hp hq hi (in_keys a q 0 hq wa ha k hk)
    · exact side_trans hp hq hi (in_keys b q 1 hq wb hb k hk)
theorem bit_le (a k : Nat) (hk : k < 32) : a < cutN a (k + 1) + 2 ^ (31 - k) := by
  unfold cutN
  rw [show 32 - (k + 1) = 31 - k by omega]
  have := Nat.mod_add_div a (2 ^ (31 - k))
  have h2 := Nat.mod_lt a (pow_pos (31 - k))
  rw [Nat.mul_comm (a / 2 ^ (31 - k))]
  omega
/-- What lies on the first side comes ahead of what lies on the other one; a prefix ahead of what lies within it. -/
theorem side_lt {p q r : Pf} (hp : goodP p = true) (hr : goodP r = true) (h : Side p 0 q) (h2 : Side p 1 r) : ltP q r := by
  have hl := good_len hp
  have hl2 := good_len hr
  have hlt := h2.1
  have h3 := cut_next q.a p.n.toNat (by omega)
  have h4 := cut_next r.a p.n.toNat (by omega)
  rw [h.2.1, h.2.2] at h3
  rw [h2.2.1, h2.2.2] at h4
  have h5 := bit_le q.a p.n.toNat (by omega)
  have h6 := cutN_le r.a (p.n.toNat + 1)
  refine .inl ?_
  omega
theorem side_up {p q : Pf} {i : Nat} (h : Side p i q) : ltP p q := by
  have h1 := cutN_le q.a p.n.toNat
  rw [h.2.1] at h1
  rcases Nat.lt_or_ge p.a q.a with h2 | h2
  · exact .inl h2
  · exact .inr ⟨by omega, h.1⟩
def GoodL (l : List Ent) : Prop := ∀ k ∈ keys l, goodP k = true ∧ k.a < 4294967296
theorem ents_good : ∀ (t : Tr), WF t → GoodL (ents t)
  | .nil, _, k, hk => by cases hk
  | .node q v a b, hw, k, hk => by
    obtain ⟨hq, -, -, -, wa, wb⟩ := hw
    have e : ents (.node q v a b) = topE q v ++ (ents a ++ ents b) := rfl
    rw [e] at hk
    simp only [keys, List.map_append, List.mem_append] at hk
    rcases hk with hk | hk | hk
    · cases v with
      | none => simp [topE] at hk
      | some x =>
        simp only [topE, List.map_cons, List.map_nil, List.mem_singleton] at hk
        rw [hk]; exact hq
    · exact ents_good a wa k hk
    · exact ents_good b wb k hk
theorem key_mem {l : List Ent} {e : Ent} (h : e ∈ l) : e.p ∈ keys l := List.mem_map.2 ⟨e, h, rfl⟩
theorem ents_ord : ∀ (t : Tr), WF t → Ord (ents t)
  | .nil, _ => List.Pairwise.nil
  | .node q v a b, hw => by
    obtain ⟨hq, -, ia, ib, wa, wb⟩ := hw
    have ka := in_keys a q 0 hq.1 wa ia
    have kb := in_keys b q 1 hq.1 wb ib
    have h2 : Ord (ents a ++ ents b) := List.pairwise_append.2 ⟨ents_ord a wa, ents_ord b wb, fun x hx y hy => side_lt hq.1 (ents_good b wb y.p (key_mem hy)).1 (ka x.p (key_mem hx)) (kb y.p (key_mem hy))⟩
    cases v with
    | none => exact h2
    | some x =>
      refine List.pairwise_cons.2 ⟨fun y hy => ?_, h2⟩
      rcases List.mem_append.1 (show y ∈ ents a ++ ents b from hy) with hy | hy
      · exact side_up (ka y.p (key_mem hy))
      · exact side_up (kb y.p (key_mem hy))
theorem ents_some : ∀ (t : Tr), WF t → t ≠ .nil → ents t ≠ []
  | .nil, _, h => absurd rfl h
  | .node q v a b, hw, _ => by
    obtain ⟨-, h, -, -, wa, -⟩ := hw
    cases v with
    | some x => intro e; cases e
    | none =>
      obtain ⟨h1, -⟩ := h.resolve_left (by decide)
      intro e
      have e2 : ents a ++ ents b = [] := e
      exact ents_some a wa h1 (List.append_eq_nil_iff.1 e2).1
/-- No node is idle: how many there are at most. -/
theorem size_le : ∀ (t : Tr), WF t → (ents t).length ≤ size t ∧ (t ≠ .nil → size t + 1 ≤ 2 * (ents t).length)
  | .nil, _ => ⟨Nat.le_refl _, fun h => absurd rfl h⟩
  | .node q v a b, hw => by
    obtain ⟨-, h, -, -, wa, wb⟩ := hw
    obtain ⟨a1, a2⟩ := size_le a wa
    obtain ⟨b1, b2⟩ := size_le b wb
    have za : a = .nil → size a = 0 := fun e => by rw [e]; rfl
    have zb : b = .nil → size b = 0 := fun e => by rw [e]; rfl
    have ha : size a ≤ 2 * (ents a).length := by
      by_cases e : a = .nil
      · have := za e; omega
      · have := a2 e; omega
    have hb : size b ≤ 2 * (ents b).length := by
      by_cases e : b = .nil
      · have := zb e; omega
      · have := b2 e; omega
    cases v with
    | some x =>
      have e : (ents (.node q (some x) a b)).length = 1 + ((ents a).length + (ents b).length) := by simp [ents, topE, Nat.add_comm]
      have e2 : size (.node q (some x) a b) = 1 + size a + size b := rfl
      exact ⟨by omega, fun _ => by omega⟩
    | none =>
      have e : (ents (.node q none a b)).length = (ents a).length + (ents b).length := by simp [ents, topE]
      have e2 : size (.node q none a b) = 1 + size a + size b := rfl
      obtain ⟨h1, h2⟩ := h.resolve_left (by decide)
      have := a2 h1
      have := b2 h2
      exact ⟨by omega, fun _ => by omega⟩
/-- A prefix covers another one, or is it. -/
def Cov (p q : Pf) : Prop := p.n ≤ q.n ∧ cutN q.a p.n.toNat = p.a
theorem side_cov {p q : Pf} {i : Nat} (h : Side p i q) : Cov p q := ⟨Int.le_of_lt h.1, h.2.1⟩
theorem root_cov {q : Pf} {v : Option Int} {a b : Tr} (hw : WF (.node q v a b)) : ∀ k ∈ keys (ents (.node q v a b)), Cov q k := fun k hk => by
  obtain ⟨hq, -, ia, ib, wa, wb⟩ := hw
  have e : ents (.node q v a b) = topE q v ++ (ents a ++ ents b) := rfl
  rw [e] at hk
  simp only [keys, List.map_append, List.mem_append] at hk
  rcases hk with hk | hk | hk
  · cases v with
    | none => simp [topE] at hk
    | some x =>
      simp only [topE, List.map_cons, List.map_nil, List.mem_singleton] at hk
      rw [hk]; exact ⟨Int.le_refl _, good_cut hq.1⟩
  · exact side_cov (in_keys a q 0 hq.1 wa ia k hk)
  · exact side_cov (in_keys b q 1 hq.1 wb ib k hk)
/-- Whatever covers all that is there is not longer than the root. -/
theorem root_low {q r : Pf} {v : Option Int} {a b : Tr} (hw : WF (.node q v a b)) (hr : goodP r = true) (h : ∀ k ∈ keys (ents (.node q v a b)), Cov r k) : r.n ≤ q.n := by
  obtain ⟨hq, hv, ia, ib, wa, wb⟩ := hw
  have e : ents (.node q v a b) = topE q v ++ (ents a ++ ents b) := rfl
  rw [e] at h
  cases v with
  | some x => exact (h q (by simp [keys, topE])).1
  | none =>
    obtain ⟨h1, h2⟩ := hv.resolve_left (by decide)
    obtain ⟨x, hx⟩ := List.exists_mem_of_ne_nil _ (ents_some a wa h1)
    obtain ⟨y, hy⟩ := List.exists_mem_of_ne_nil _ (ents_some b wb h2)
    have sx := in_keys a q 0 hq.1 wa ia x.p (key_mem hx)
    have sy := in_keys b q 1 hq.1 wb ib y.p (key_mem hy)
    have cx := h x.p (by simp only [topE, keys, List.nil_append, List.map_append, List.mem_append]; exact .inl (key_mem hx))
    have cy := h y.p (by simp only [topE, keys, List.nil_append, List.map_append, List.mem_append]; exact .inr (key_mem hy))
    have hl := good_len hq.1
    have hl2 := good_len hr
    rcases Int.lt_or_le q.n r.n with hlt | hle
    · exfalso
      have b1 := bit_cut x.p.a r.n.toNat q.n.toNat (by omega) (by omega)
      have b2 := bit_cut y.p.a r.n.toNat q.n.toNat (by omega) (by omega)
      rw [cx.2, sx.2.2] at b1
      rw [cy.2, sy.2.2] at b2
      omega
    · exact hle
theorem filter_side {p : Pf} {i : Nat} : ∀ (l : List Ent), (∀ k ∈ keys l, Side p i k) → l.filter (fun e => decide (bitN e.p.a p.n.toNat = 0)) = if i = 0 then l else []
  | [], _ => by simp
  | e :: l, h => by
    have ih := filter_side (p := p) (i := i) l (fun k hk => h k (List.mem_cons_of_mem _ hk))
    have hs := (h e.p List.mem_cons_self).2.2
    rw [List.filter_cons, ih, hs]
    by_cases hi : i = 0
    · simp [hi]
    · simp [hi]
/-- A tree is told by its rows. -/
theorem tree_ext : ∀ (t u : Tr), WF t → WF u → ents t = ents u → t = u
  | .nil, .nil, _, _, _ => rfl
  | .nil, .node q v a b, _, hw, h => absurd h.symm (ents_some _ hw (fun e => by cases e))
  | .node q v a b, .nil, hw, _, h => absurd h (ents_some _ hw (fun e => by cases e))
  | .node q v a b, .node r x c d, hw, hw2, h => by
    have c1 := root_cov hw
    have c2 := root_cov hw2
    have l1 := root_low hw hw2.1.1 (h ▸ c2)
    have l2 := root_low hw2 hw.1.1 (h ▸ c1)
    obtain ⟨z, hz⟩ := List.exists_mem_of_ne_nil _ (ents_some _ hw (fun e => by cases e))
    have k1 := c1 z.p (key_mem hz)
    have k2 := c2 z.p (h ▸ key_mem hz)
    have en : q.n = r.n := by omega
    have e0 : q = r := pf_ext (by rw [← k1.2, ← k2.2, en]) en
    subst e0
    obtain ⟨hq, -, ia, ib, wa, wb⟩ := hw
    obtain ⟨-, -, ic, id', wc, wd⟩ := hw2
    have sa := in_keys a q 0 hq.1 wa ia
    have sb := in_keys b q 1 hq.1 wb ib
    have sc := in_keys c q 0 hq.1 wc ic
    have sd := in_keys d q 1 hq.1 wd id'
    have hn : ∀ (s t : Tr), (∀ k ∈ keys (ents s), Side q 0 k) → (∀ k ∈ keys (ents t), Side q 1 k) → ∀ y : Int, (⟨q, y⟩ : Ent) ∉ ents s ++ ents t := fun s t hs ht y hm => by
      rcases List.mem_append.1 hm with hm | hm
      · exact absurd (hs q (key_mem hm)).1 (Int.lt_irrefl _)
      · exact absurd (ht q (key_mem hm)).1 (Int.lt_irrefl _)
    have hh : topE q v ++ (ents a ++ ents b) = topE q x ++ (ents c ++ ents d) := h
    obtain ⟨ev, er⟩ : v = x ∧ ents a ++ ents b = ents c ++ ents d := by
      cases v with
      | none =>
        cases x with
        | none => exact ⟨rfl, hh⟩
        | some y =>
          have hh2 : ents a ++ ents b = ⟨q, y⟩ :: (ents c ++ ents d) := hh
          exact absurd (hh2 ▸ List.mem_cons_self) (hn a b sa sb y)
      | some y =>
        cases x with
        | none =>
          have hh2 : ⟨q, y⟩ :: (ents a ++ ents b) = ents c ++ ents d := hh
          exact absurd (hh2 ▸ List.mem_cons_self) (hn c d sc sd y)
        | some y2 =>
          have hh2 : (⟨q, y⟩ : Ent) :: (ents a ++ ents b) = ⟨q, y2⟩ :: (ents c ++ ents d) := hh
          injection hh2 with e1 e2
          injection e1 with _ e1
          exact ⟨by rw [e1], e2⟩
    have f1 := congrArg (List.filter (fun e : Ent => decide (bitN e.p.a q.n.toNat = 0))) er
    rw [List.filter_append, List.filter_append, filter_side _ sa, filter_side _ sb, filter_side _ sc, filter_side _ sd] at f1
    simp only [if_true, Nat.one_ne_zero, if_false, List.append_nil] at f1
    rw [f1] at er
    rw [ev, tree_ext a c wa wc f1, tree_ext b d wb wd (List.append_cancel_left er)]
end Go.Proofs.Ytpcahgnibdampaa.Tri
